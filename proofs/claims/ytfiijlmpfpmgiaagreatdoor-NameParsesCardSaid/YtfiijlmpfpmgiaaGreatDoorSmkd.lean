/-
  newMaker, of a schema with one class whose types have nothing above them: the walk.
-/
import Derived.Test.YtfiijlmpfpmgiaaGreatDoorSmkcToSsups
namespace Go.Proofs.YtfiijlmpfpmgiaaGreatDoor
open Go.RowKit

/-- a maker with the places above its class -/
structure MkU (D : Dc) (w : World) (n : Nat) (v : Value) (ts : List Ty) (H : Nat) (a : Option Addr) (c : Nat) (qs : List TyP) (cnt : Nat) (f : List UInt8 → Option Int) (k : Nat) (sv : Value) (gu cu : Nat) (W : World) : Prop where
  gt : w.heap.size < H
  fst : qs.map Prod.fst = ts
  row : Row W (fun b => w.heap.size < b ∧ b < H) 137 9 (.slice a n c) n (flat qs)
  own : ∀ p ∈ qs, RowE 9 encS W (fun b => w.heap.size < b ∧ b < H) p.2 p.1.names
  mt : MapAt W H cnt f
  mc : MapAt W (H + 1) D.cn D.cf
  sc : W.heap[H + 2]? = some (.cells #[.slice a n c, .slice (some ⟨D.gc, 0, none⟩) 1 D.cc, .map (some H), .map (some (H + 1)), .slice none 0 0, .slice none 0 0, .slice none 0 0] 151 (0, 0))
  mb : W.heap[H + 3]? = some (.cells #[.pointer (some ⟨H + 2, 0, none⟩), sv, .slice (some ⟨gu, 0, none⟩) 1 cu] 134 (0, 0))
  sup : Row W (fun b => H + 4 ≤ b) 3 1 sv k (List.replicate k (.int .i64 (-1)))
  ext : Ext w W
  cls : Row W (fun b => w.heap.size < b ∧ b < H) 139 6 (.slice (some ⟨D.gc, 0, none⟩) 1 D.cc) 1 (clL D.cl D.nc)
  cnm : RowE 9 encS W (fun b => w.heap.size < b ∧ b < H) D.nc D.cl.names
  ups : Row W (fun b => H + 4 ≤ b) 131 1 (.slice (some ⟨gu, 0, none⟩) 1 cu) 1 [.slice none 0 0]
theorem infoSI7 : (Tryz.prog.info? 131).map (fun i => (i.zero, i.size, i.bytes)) = some (some (.slice none 0 0), 1, 24) := by kernel_rfl
theorem own_none : ∀ g, ¬ own (.slice none 0 0) g := fun g h => by simp [own, Value.ownBlock] at h
theorem mkc_cell2 {D : Dc} {w : World} {n : Nat} {v : Value} {ts : List Ty} {H : Nat} {a : Option Addr} {c : Nat} {qs : List TyP} {cnt : Nat} {f : List UInt8 → Option Int} {k : Nat} {sv : Value} {W W' : World} (h : MkC D w n v ts H a c qs cnt f k sv W) (x : Only (own (.slice none 0 0)) W W') : W'.cell? ⟨H + 3, 2, none⟩ = some (.slice none 0 0) ∧ W'.frozen? ⟨H + 3, 2, none⟩ = false := by
  have hm := blk h.mb x (own_none _)
  exact ⟨cell_of_row _ _ 2 _ _ _ hm, by simp [World.frozen?, hm]⟩
theorem MkC.ups {D : Dc} {w : World} {n : Nat} {v : Value} {ts : List Ty} {H : Nat} {a : Option Addr} {c : Nat} {qs : List TyP} {cnt : Nat} {f : List UInt8 → Option Int} {k : Nat} {sv : Value} {W W3 : World} {gu cu : Nat} (h : MkC D w n v ts H a c qs cnt f k sv W)
    (r : Row W3 (Up (Go.Proofs.YtfiijlmpfpmgiaaGreatDoor.own (.slice none 0 0)) W.heap.size) 131 1 (.slice (some ⟨gu, 0, none⟩) 1 cu) 1 [.slice none 0 0]) (x : Only (Go.Proofs.YtfiijlmpfpmgiaaGreatDoor.own (.slice none 0 0)) W W3) : MkU D w n v ts H a c qs cnt f k sv gu cu (W3.setCell ⟨H + 3, 2, none⟩ (.slice (some ⟨gu, 0, none⟩) 1 cu)) := by
  have hg := h.gt
  have hlt := h.lt
  have x' : Only (fun _ => False) W W3 := x.mono (fun g _ hs => own_none g hs)
  have y := only_set W3 (H + 3) 2 (.slice (some ⟨gu, 0, none⟩) 1 cu)
  have nf : ∀ g : Nat, ¬ (fun _ : Nat => False) g := fun _ h => h
  refine ⟨h.gt, h.fst, Row.kept (Row.kept h.row x' (fun g _ => nf g)) y (fun g hg => by omega), fun p hp => Row.kept (Row.kept (h.own p hp) x' (fun g _ => nf g)) y (fun g hg => by omega), (h.mt.only x' (fun h => h)).only y (by omega), (h.mc.only x' (fun h => h)).only y (by omega),
    blk (blk h.sc x' (fun h => h)) y (by omega), heap_setCell_at W3 (H + 3) 2 _ _ _ _ (blk h.mb x' (fun h => h)), Row.kept (Row.kept h.sup x' (fun g _ => nf g)) y (fun g hg => by omega), (h.ext.then x' (fun g hs => hs.elim)).then y (fun g hs => by omega), Row.kept (Row.kept h.cls x' (fun g _ => nf g)) y (fun g hg => by omega), Row.kept (Row.kept h.cnm x' (fun g _ => nf g)) y (fun g hg => by omega), ?_⟩
  exact Row.kept (r.wide (fun g hg => hg.elim (fun h' => (own_none g h').elim) (fun h' => by omega))) y (fun g hg => by omega)
set_option maxRecDepth 100000 in
set_option maxHeartbeats 8000000 in
theorem newMakerC_any (w : World) (v : Value) (ps : List TyP) (hs : TySl w v ps) (g0 o0 k0 : Nat) (cl : Cl) (na0 : Option Addr) (nn0 nc0 : Nat) (hcn : Sl encS w (.slice na0 nn0 nc0) cl.names) (hcs : (∀ y ∈ cl.oid :: cl.names, y.size ≤ 281474976710656) ∧ cl.names.length ≤ 1000) (hcc : ∀ j u, (clL cl (.slice na0 nn0 nc0))[j]? = some u → w.cell? ⟨g0, o0 + j, none⟩ = some u) (hl : ps.length ≤ 1024) (hsh : ∀ p ∈ ps, Short p.1) (hflat : ∀ p ∈ ps, p.1.sup = ⟨#[]⟩) :
    Calls Tryz.prog 63 #[.agg #[v, .slice (some ⟨g0, o0, none⟩) 1 k0]] w fun e w' => ∃ H a cap qs sa cs D gu cu, e = .returned (.pointer (some ⟨H + 3, 0, none⟩)) ∧ D.cl = cl ∧ D.cn = 1 + cl.names.length ∧ D.cf = putL 0 (fun _ => none) (cl.oid :: cl.names) ∧
      MkU D w ps.length v (ps.map Prod.fst) H a cap qs (tcnt (ps.map Prod.fst) ps.length) (tmap (ps.map Prod.fst) ps.length) ps.length (.slice sa ps.length cs) gu cu w' := by
  have htw := fun w1 (x : Ext w w1) => twinC_any w1 v ps (hs.ext x) (by omega) g0 o0 k0 cl na0 nn0 nc0 (hcn.ext x) (by have := hcs.2; omega) (fun j u hu => x.cell (hcc j u hu))
  have hmix : Tryz.prog.follows Departure.mixedOrders = true := by kernel_rfl
  have hmm := @run_makeMap Tryz.prog
  have hsr : Hid (TySl w v ps) := hs
  obtain ⟨⟨av, cv, rfl, _⟩, _⟩ := hs
  generalize hn : ps.length = n at *
  have hnh : Hid (ps.length = n) := hn
  clear hn
  go_enter Tryz.func63, Tryz.ntmps63
  go_upto_region 1 with fail
  go_cut [3] from 12 to 19 (fun s3 wx => ∃ H a c qs gc cc u1 u2 u3, s3 = .pointer (some ⟨H + 3, 0, none⟩) ∧ MkC ⟨.slice (some ⟨g0, o0, none⟩) 1 k0, gc, cc, cl, .slice u1 u2 u3, 0, fun _ => none⟩ w n (.slice av n cv) (ps.map Prod.fst) H a c qs 0 (fun _ => none) 0 (.slice none 0 0) wx)
  case first =>
    go_wp2_with fail
    go_at_call 82
    refine (htw _ ((Ext.refl w).alloc _)).mono ?_
    rintro _ w1 ⟨a1, c1, qs, gc, cc, u1, u2, u3, rfl, hfst, row1, own1, crow, cnam, x1⟩
    have hB1 := (x1.block w.heap.size (by simp)).trans (heap_alloc_new w _)
    have x01 : Ext w w1 := ((Ext.refl w).alloc _).trans x1
    have hz1 : Hid (w.heap.size < w1.heap.size) := by have := x1.size; simp at this; exact this
    have row1h : Hid _ := row1
    have own1h : Hid _ := own1
    have crowh : Hid _ := crow
    have cnamh : Hid _ := cnam
    clear row1 own1 crow cnam
    go_wp2
    go_meet
    exact ⟨w1.heap.size, a1, c1, qs, gc, cc, u1, u2, u3, rfl, mkc_start hB1 hz1.out hfst (Row.wide row1h.out (fun b hb => by simp at hb; omega)) (fun p hp => Row.wide (own1h.out p hp) (fun b hb => by simp at hb; omega)) x01 (Row.wide crowh.out (fun b hb => by simp at hb; omega)) (Row.wide cnamh.out (fun b hb => by simp at hb; omega))⟩
  case rest =>
    obtain ⟨H, a, c, qs, gc, cc, u1, u2, u3, rfl, M0⟩ := hcut
    obtain ⟨D, hD⟩ : ∃ D : Dc, D = ⟨.slice (some ⟨g0, o0, none⟩) 1 k0, gc, cc, cl, .slice u1 u2 u3, 0, fun _ => none⟩ := ⟨_, rfl⟩
    have hDv : D.vc = .slice (some ⟨g0, o0, none⟩) 1 k0 := by rw [hD]
    have hDl : D.cl = cl := by rw [hD]
    have hDn : D.cn = 0 := by rw [hD]
    have hDf : D.cf = fun _ => none := by rw [hD]
    rw [← hD] at M0
    clear hD
    have d0 := cell_of_row _ _ 0 _ _ _ M0.box
    have d1 := cell_of_row _ _ 1 _ _ _ M0.box
    rw [hDv] at d1
    simp only [List.getElem?_toArray, List.getElem?_cons_zero, List.getElem?_cons_succ] at d0 d1
    have M0h : Hid _ := M0
    clear M0
    go_wp2
    go_loopw [4, 5, 23] (fun _ _ i wr => ∃ k : Nat, k ≤ n ∧ i = .int .i64 k ∧ Hid (MkC D w n (.slice av n cv) (ps.map Prod.fst) H a c qs (tcnt (ps.map Prod.fst) k) (tmap (ps.map Prod.fst) k) 0 (.slice none 0 0) wr)) (fun _ _ i _ => n - (intOf i).toNat)
    case atStart => exact ⟨0, Nat.zero_le _, rfl, M0h⟩
    case round =>
      obtain ⟨k, hk, rfl, HM⟩ := hrel
      clear M0h d0 d1
      have d0 := cell_of_row _ _ 0 _ _ _ HM.out.box
      have d1 := cell_of_row _ _ 1 _ _ _ HM.out.box
      rw [hDv] at d1
      simp only [List.getElem?_toArray, List.getElem?_cons_zero, List.getElem?_cons_succ] at d0 d1
      by_cases hlt : k < n
      · have hlt' : (k : Int) < (n : Int) := by omega
        have hkp : k < ps.length := by rw [hnh.out]; exact hlt
        obtain ⟨g, o, rfl, nc⟩ := (hsr.out.ext HM.out.ext).nine k hkp
        obtain ⟨hnk, _⟩ := (hsr.out.ext HM.out.ext).2 ps[k] (List.getElem_mem _)
        have hshk := hsh ps[k] (List.getElem_mem _)
        have hts : (ps.map Prod.fst)[k]? = some ps[k].1 := by simp [hkp]
        have hcnt : tcnt (ps.map Prod.fst) k ≤ 1000000000 := by
          have h1 := tcnt_le (ps.map Prod.fst) 1000 (fun t ht => by obtain ⟨p, hp, rfl⟩ := List.mem_map.1 ht; exact (hsh p hp).2) k
          have h2 : k * (1000 + 1) ≤ 1024 * 1001 := Nat.mul_le_mul (by omega) (Nat.le_refl _)
          omega
        have hput := fun w1 (M : MkC D w n (.slice (some ⟨g, o, none⟩) n cv) (ps.map Prod.fst) H a c qs (tcnt (ps.map Prod.fst) k) (tmap (ps.map Prod.fst) k) 0 (.slice none 0 0) w1) => put_any w1 H _ _ (k : Int) (WalkArith.wf_i64 (n := (k : Int)) (by constructor <;> omega)) ps[k].1.oid ps[k].2 ps[k].1.names M.mt (((hsr.out.ext M.ext).2 ps[k] (List.getElem_mem _)).1) hshk.1 (by have := hshk.2; omega) hcnt
        have hT : Hid (tmap (ps.map Prod.fst) (k + 1) = putL k (tmap (ps.map Prod.fst) k) (ps[k].1.oid :: ps[k].1.names) ∧ tcnt (ps.map Prod.fst) (k + 1) = tcnt (ps.map Prod.fst) k + (1 + ps[k].1.names.length)) := ⟨by rw [tmap, hts], by rw [tcnt, hts]⟩
        obtain ⟨⟨⟨oid, names, sup, syn, eq, ord, prt, single, ix⟩, nv⟩, hq⟩ : ∃ q, ps[k] = q := ⟨_, rfl⟩
        rw [hq] at hnk hT nc
        simp only [hq] at hput
        obtain ⟨na, nn, nc', rfl, _⟩ := hnk.shape
        have c0 := nc 0 _ rfl
        have c1 := nc 1 _ rfl
        have c2 := nc 2 _ rfl
        have c3 := nc 3 _ rfl
        have c4 := nc 4 _ rfl
        have c5 := nc 5 _ rfl
        have c6 := nc 6 _ rfl
        have c7 := nc 7 _ rfl
        have c8 := nc 8 _ rfl
        simp only [Nat.add_zero] at c0
        clear nc hts hq hshk
        go_upto_region 5 with fail
        have M2 := HM.out.grow ((Ext.refl wr).alloc (.cells #[.string oid, .slice na nn nc', .string sup, .int .i8 syn, .int .i8 eq, .int .i8 ord, .int .i8 prt, .bool single, .int .u8 ix] 137))
        have hv := heap_alloc_new wr (.cells #[.string oid, .slice na nn nc', .string sup, .int .i8 syn, .int .i8 eq, .int .i8 ord, .int .i8 prt, .bool single, .int .u8 ix] 137)
        generalize wr.alloc (.cells #[.string oid, .slice na nn nc', .string sup, .int .i8 syn, .int .i8 eq, .int .i8 ord, .int .i8 prt, .bool single, .int .u8 ix] 137) = w2 at M2 hv ⊢
        have e0 := cell_of_row _ _ 0 _ _ _ M2.mb
        have e1 := cell_of_row _ _ 2 _ _ _ M2.sc
        have e2 := cell_of_row _ _ 0 _ _ _ hv
        have e3 := cell_of_row _ _ 1 _ _ _ hv
        simp only [List.getElem?_toArray, List.getElem?_cons_zero, List.getElem?_cons_succ] at e0 e1 e2 e3
        have M3 := M2.grow (Ext.refl w2).drew
        have hp3 := hput _ M3
        have M3h : Hid _ := M3
        clear M2 M3 hv hput
        go_region_with_o (go_at_call 83; refine hp3.mono ?_; rintro _ w4 ⟨rfl, m4, o4⟩)
        all_goals go_wp2
        all_goals go_roundw
        all_goals try (simp [intOf]; omega)
        all_goals
          refine ⟨k + 1, hlt, by go_num, ?_⟩
          rw [hT.out.1, hT.out.2]
          exact M3h.out.put o4 m4
      · have hlt' : ¬ (k : Int) < (n : Int) := by omega
        obtain rfl : k = n := by omega
        obtain ⟨D2, hD2⟩ : ∃ D2 : Dc, D2 = { D with cn := 0 + (1 + cl.names.length), cf := putL 0 (fun _ => none) (cl.oid :: cl.names) } := ⟨_, rfl⟩
        have hD2v : D2.vc = .slice (some ⟨g0, o0, none⟩) 1 k0 := by rw [hD2]; exact hDv
        have hD2l : D2.cl = cl := by rw [hD2]; exact hDl
        have hD2n : D2.cn = 1 + cl.names.length := by rw [hD2]; show 0 + _ = _; omega
        have hD2f : D2.cf = putL 0 (fun _ => none) (cl.oid :: cl.names) := by rw [hD2]
        have hD2h : Hid _ := hD2
        clear hD2
        go_wp2
        go_loopw [6, 7, 45] (fun _ _ i wx => ∃ y : Nat, i = .int .i64 y ∧ Hid ((y = 0 ∧ MkC D w k (.slice av k cv) (ps.map Prod.fst) H a c qs (tcnt (ps.map Prod.fst) k) (tmap (ps.map Prod.fst) k) 0 (.slice none 0 0) wx) ∨ (y = 1 ∧ MkC D2 w k (.slice av k cv) (ps.map Prod.fst) H a c qs (tcnt (ps.map Prod.fst) k) (tmap (ps.map Prod.fst) k) 0 (.slice none 0 0) wx))) (fun _ _ i _ => 1 - (intOf i).toNat)
        case atStart => exact ⟨0, rfl, .inl ⟨rfl, HM.out⟩⟩
        case round =>
          obtain ⟨y, rfl, HY⟩ := hrel
          clear d0 d1 HM
          rcases HY.out with ⟨rfl, M⟩ | ⟨rfl, M4⟩
          · clear HY
            have cc0 := M.ext.cell (hcc 0 _ rfl)
            have cc1 := M.ext.cell (hcc 1 _ rfl)
            have cc2 := M.ext.cell (hcc 2 _ rfl)
            have cc3 := M.ext.cell (hcc 3 _ rfl)
            have cc4 := M.ext.cell (hcc 4 _ rfl)
            have cc5 := M.ext.cell (hcc 5 _ rfl)
            simp only [Nat.add_zero] at cc0
            have Mh : Hid _ := M
            clear M
            go_upto_region 10 with fail
            have M2 := Mh.out.grow ((Ext.refl wr).alloc (.cells #[.string cl.oid, .slice na0 nn0 nc0, .slice none 0 0, .int .i8 cl.kind, .slice none 0 0, .slice none 0 0] 139))
            have hv := heap_alloc_new wr (.cells #[.string cl.oid, .slice na0 nn0 nc0, .slice none 0 0, .int .i8 cl.kind, .slice none 0 0, .slice none 0 0] 139)
            generalize wr.alloc (.cells #[.string cl.oid, .slice na0 nn0 nc0, .slice none 0 0, .int .i8 cl.kind, .slice none 0 0, .slice none 0 0] 139) = w2 at M2 hv ⊢
            have e0 := cell_of_row _ _ 0 _ _ _ M2.mb
            have e1 := cell_of_row _ _ 3 _ _ _ M2.sc
            have e2 := cell_of_row _ _ 0 _ _ _ hv
            have e3 := cell_of_row _ _ 1 _ _ _ hv
            simp only [List.getElem?_toArray, List.getElem?_cons_zero, List.getElem?_cons_succ] at e0 e1 e2 e3
            have M3 := M2.grow (Ext.refl w2).drew
            have hmc := M3.mc
            rw [hDn, hDf] at hmc
            have hp3 := put_any w2.drew (H + 1) 0 (fun _ => none) 0 (by decide) cl.oid (.slice na0 nn0 nc0) cl.names hmc (hcn.ext M3.ext) hcs.1 (by have := hcs.2; omega) (by decide)
            have M3h : Hid _ := M3
            clear M2 M3 hv hmc
            go_region_with_o (go_at_call 83; refine hp3.mono ?_; rintro _ w4 ⟨rfl, m4, o4⟩)
            all_goals go_wp2
            all_goals go_roundw
            all_goals try (simp [intOf])
            all_goals exact ⟨1, by go_num, .inr ⟨rfl, by rw [hD2h.out]; exact M3h.out.putC o4 m4⟩⟩
          · clear HY
            have d0 := cell_of_row _ _ 0 _ _ _ M4.box
            have d1 := cell_of_row _ _ 1 _ _ _ M4.box
            rw [hD2v] at d1
            simp only [List.getElem?_toArray, List.getElem?_cons_zero, List.getElem?_cons_succ] at d0 d1
            have M4h : Hid _ := M4
            clear M4
            go_wp2
            go_loopw [9, 67] (fun _ i wx => ∃ (j : Nat) (sa : Option Addr) (cs : Nat), j ≤ k ∧ i = .int .i64 j ∧ Hid (MkC D2 w k (.slice av k cv) (ps.map Prod.fst) H a c qs (tcnt (ps.map Prod.fst) k) (tmap (ps.map Prod.fst) k) j (.slice sa j cs) wx)) (fun _ i _ => k - (intOf i).toNat)
            case atStart => exact ⟨0, none, 0, Nat.zero_le _, rfl, M4h⟩
            case round =>
              obtain ⟨j, sa, cs, hj, rfl, HM2⟩ := hrel
              clear d0 d1 M4h
              have d0 := cell_of_row _ _ 0 _ _ _ HM2.out.box
              have d1 := cell_of_row _ _ 1 _ _ _ HM2.out.box
              rw [hD2v] at d1
              simp only [List.getElem?_toArray, List.getElem?_cons_zero, List.getElem?_cons_succ] at d0 d1
              by_cases hlt : j < k
              · have hlt2 : (j : Int) < (k : Int) := by omega
                have hjp : j < ps.length := by rw [hnh.out]; exact hlt
                obtain ⟨g, o, rfl, nc⟩ := (hsr.out.ext HM2.out.ext).nine j hjp
                obtain ⟨hnk, _⟩ := (hsr.out.ext HM2.out.ext).2 ps[j] (List.getElem_mem _)
                have hfl := hflat ps[j] (List.getElem_mem _)
                obtain ⟨⟨⟨oid, names, sup, syn, eq, ord, prt, single, ix⟩, nv⟩, hq⟩ : ∃ q, ps[j] = q := ⟨_, rfl⟩
                rw [hq] at hnk nc hfl
                obtain ⟨na, nn, nc', rfl, _⟩ := hnk.shape
                obtain rfl : sup = ⟨#[]⟩ := hfl
                have c0 := nc 0 _ rfl
                have c1 := nc 1 _ rfl
                have c2 := nc 2 _ rfl
                have c3 := nc 3 _ rfl
                have c4 := nc 4 _ rfl
                have c5 := nc 5 _ rfl
                have c6 := nc 6 _ rfl
                have c7 := nc 7 _ rfl
                have c8 := nc 8 _ rfl
                simp only [Nat.add_zero] at c0
                clear nc hq
                go_upto_region 15 with fail
                have M2 := HM2.out.grow ((Ext.refl wr).alloc (.cells #[.string oid, .slice na nn nc', .string ⟨#[]⟩, .int .i8 syn, .int .i8 eq, .int .i8 ord, .int .i8 prt, .bool single, .int .u8 ix] 137))
                have hv := heap_alloc_new wr (.cells #[.string oid, .slice na nn nc', .string ⟨#[]⟩, .int .i8 syn, .int .i8 eq, .int .i8 ord, .int .i8 prt, .bool single, .int .u8 ix] 137)
                generalize wr.alloc (.cells #[.string oid, .slice na nn nc', .string ⟨#[]⟩, .int .i8 syn, .int .i8 eq, .int .i8 ord, .int .i8 prt, .bool single, .int .u8 ix] 137) = w2 at M2 hv ⊢
                generalize wr.heap.size = gv at hv ⊢
                have e1 := cell_of_row _ _ 1 _ _ _ M2.mb
                have v0 := cell_of_row _ _ 0 _ _ _ hv
                have v1 := cell_of_row _ _ 1 _ _ _ hv
                have v2 := cell_of_row _ _ 2 _ _ _ hv
                have v3 := cell_of_row _ _ 3 _ _ _ hv
                have v4 := cell_of_row _ _ 4 _ _ _ hv
                have v5 := cell_of_row _ _ 5 _ _ _ hv
                have v6 := cell_of_row _ _ 6 _ _ _ hv
                have v7 := cell_of_row _ _ 7 _ _ _ hv
                have v8 := cell_of_row _ _ 8 _ _ _ hv
                simp only [List.getElem?_toArray, List.getElem?_cons_zero, List.getElem?_cons_succ] at e1 v0 v1 v2 v3 v4 v5 v6 v7 v8
                have hsup : Calls Tryz.prog 84 #[.pointer (some ⟨H + 3, 0, none⟩), .agg #[.string oid, .slice na nn nc', .string ⟨#[]⟩, .int .i8 syn, .int .i8 eq, .int .i8 ord, .int .i8 prt, .bool single, .int .u8 ix]] w2.drew fun e w4 => e = .returned (.int .i64 (-1)) ∧ Hid (Ext w2 w4) ∧ w4.cell? ⟨H + 3, 1, none⟩ = some (.slice sa j cs) ∧ (∀ ob : Obj, (w4.alloc ob).cell? ⟨H + 3, 1, none⟩ = some (.slice sa j cs)) := by
                  refine (supOf_flat w2.drew (.pointer (some ⟨H + 3, 0, none⟩)) ⟨oid, names, ⟨#[]⟩, syn, eq, ord, prt, single, ix⟩ (.slice na nn nc') rfl rfl).mono ?_
                  rintro _ w4 ⟨rfl, x4⟩
                  have x4' : Ext w2 w4 := (Ext.refl w2).drew.trans x4
                  exact ⟨rfl, x4', x4'.cell e1, fun ob => (x4'.alloc ob).cell e1⟩
                have M2h : Hid _ := M2
                clear M2 hv
                go_region_law_o ((first
                  | (refine step_push (by rfl) _ _ 131 3 (.int .i64 0) 1 8 infoInt Tryz.underlying131 rfl (by rfl) w4 (by exact (Ext.refl w4).alloc _) (own (.slice sa j cs)) (.slice sa j cs) j (List.replicate j (.int .i64 (-1))) (Row.min (M2h.out.grow hx4.out).sup) (by rfl) w4.heap.size 1 (by rfl) [.int .i64 (-1)] (heap_alloc_new w4 _) (by rfl) (by intro u hu; simp only [List.mem_singleton] at hu; subst hu; rfl) (by unfold maxLen; omega) (by omega) ?_; intro g5 cap5 w5 r5 o5; obtain ⟨q1, f1⟩ := mkc_cell (M2h.out.grow hx4.out) o5)
                  | (go_simp; go_at_call 84; refine hsup.mono ?_; rintro _ w4 ⟨rfl, hx4, e4, e4A⟩; dsimp only)))
                all_goals go_wp2
                all_goals go_roundw
                all_goals try (simp [intOf]; omega)
                all_goals first | exact ⟨j + 1, _, _, hlt, by go_num, MkC.push (M2h.out.grow hx4.out) r5 o5⟩ | exact ⟨j + 1, hlt, by go_num, _, _, MkC.push (M2h.out.grow hx4.out) r5 o5⟩
              · have hlt2 : ¬ (j : Int) < (k : Int) := by omega
                obtain rfl : j = k := by omega
                go_wp2
                go_loopw [11, 87] (fun _ i wx => ∃ y : Nat, i = .int .i64 y ∧ Hid ((y = 0 ∧ MkC D2 w j (.slice av j cv) (ps.map Prod.fst) H a c qs (tcnt (ps.map Prod.fst) j) (tmap (ps.map Prod.fst) j) j (.slice sa j cs) wx) ∨ (y = 1 ∧ ∃ gu cu, MkU D2 w j (.slice av j cv) (ps.map Prod.fst) H a c qs (tcnt (ps.map Prod.fst) j) (tmap (ps.map Prod.fst) j) j (.slice sa j cs) gu cu wx))) (fun _ i _ => 1 - (intOf i).toNat)
                case atStart => exact ⟨0, rfl, .inl ⟨rfl, HM2.out⟩⟩
                case round =>
                  obtain ⟨y, rfl, HY⟩ := hrel
                  clear d0 d1 HM2
                  rcases HY.out with ⟨rfl, M⟩ | ⟨rfl, gu, cu, U⟩
                  · clear HY
                    have cc0 := M.ext.cell (hcc 0 _ rfl)
                    have cc1 := M.ext.cell (hcc 1 _ rfl)
                    have cc2 := M.ext.cell (hcc 2 _ rfl)
                    have cc3 := M.ext.cell (hcc 3 _ rfl)
                    have cc4 := M.ext.cell (hcc 4 _ rfl)
                    have cc5 := M.ext.cell (hcc 5 _ rfl)
                    simp only [Nat.add_zero] at cc0
                    have Mh : Hid _ := M
                    clear M
                    go_upto_region 20 with fail
                    have M2 := Mh.out.grow ((Ext.refl wr).alloc (.cells #[.string cl.oid, .slice na0 nn0 nc0, .slice none 0 0, .int .i8 cl.kind, .slice none 0 0, .slice none 0 0] 139))
                    have hv := heap_alloc_new wr (.cells #[.string cl.oid, .slice na0 nn0 nc0, .slice none 0 0, .int .i8 cl.kind, .slice none 0 0, .slice none 0 0] 139)
                    generalize wr.alloc (.cells #[.string cl.oid, .slice na0 nn0 nc0, .slice none 0 0, .int .i8 cl.kind, .slice none 0 0, .slice none 0 0] 139) = w2 at M2 hv ⊢
                    generalize wr.heap.size = gv at hv ⊢
                    have e1 := cell_of_row _ _ 2 _ _ _ M2.mb
                    have e0 := cell_of_row _ _ 0 _ _ _ M2.mb
                    have s1 := cell_of_row _ _ 1 _ _ _ M2.sc
                    have v0 := cell_of_row _ _ 0 _ _ _ hv
                    have v1 := cell_of_row _ _ 1 _ _ _ hv
                    have v2 := cell_of_row _ _ 2 _ _ _ hv
                    have v3 := cell_of_row _ _ 3 _ _ _ hv
                    have v4 := cell_of_row _ _ 4 _ _ _ hv
                    have v5 := cell_of_row _ _ 5 _ _ _ hv
                    simp only [List.getElem?_toArray, List.getElem?_cons_zero, List.getElem?_cons_succ] at e0 e1 s1 v0 v1 v2 v3 v4 v5
                    have hsup : Calls Tryz.prog 85 #[.pointer (some ⟨H + 3, 0, none⟩), .agg #[.string cl.oid, .slice na0 nn0 nc0, .slice none 0 0, .int .i8 cl.kind, .slice none 0 0, .slice none 0 0]] w2.drew fun e w4 => e = .returned (.slice none 0 0) ∧ Hid (Ext w2 w4) ∧ w4.cell? ⟨H + 3, 2, none⟩ = some (.slice none 0 0) ∧ (∀ ob : Obj, (w4.alloc ob).cell? ⟨H + 3, 2, none⟩ = some (.slice none 0 0)) := by
                      refine (supsOf_none w2.drew (H + 3) (H + 2) D2.gc D2.cc cl.oid na0 nn0 nc0 cl.kind (((Ext.refl w2).drew).cell e0) (((Ext.refl w2).drew).cell s1)).mono ?_
                      rintro _ w4 ⟨rfl, x4⟩
                      have x4' : Ext w2 w4 := (Ext.refl w2).drew.trans x4
                      exact ⟨rfl, x4', x4'.cell e1, fun ob => (x4'.alloc ob).cell e1⟩
                    have M2h : Hid _ := M2
                    clear M2 hv e0 s1
                    go_region_law_o ((first
                      | (refine step_push (by rfl) _ _ 132 131 (.slice none 0 0) 1 24 infoSI7 Tryz.underlying132 rfl (by rfl) w4 (by exact (Ext.refl w4).alloc _) (own (.slice none 0 0)) (.slice none 0 0) 0 [] (row_nil _ _ _ _) (by rfl) w4.heap.size 1 (by rfl) [.slice none 0 0] (heap_alloc_new w4 _) (by rfl) (by intro u hu; simp only [List.mem_singleton] at hu; subst hu; rfl) (by decide) (by decide) ?_; intro g5 cap5 w5 r5 o5; obtain ⟨q1, f1⟩ := mkc_cell2 (M2h.out.grow hx4.out) o5)
                      | (go_simp; go_at_call 85; refine hsup.mono ?_; rintro _ w4 ⟨rfl, hx4, e4, e4A⟩; dsimp only)))
                    all_goals go_wp2
                    all_goals go_roundw
                    all_goals try (simp [intOf])
                    all_goals exact ⟨1, by go_num, .inr ⟨rfl, g5, cap5, MkC.ups (M2h.out.grow hx4.out) r5 o5⟩⟩
                  · clear HY
                    have Uh : Hid _ := U
                    clear U
                    go_wp2
                    go_ret
                    exact ⟨H, a, c, qs, sa, cs, D2, gu, cu, rfl, hD2l, hD2n, hD2f, Uh.out⟩
end Go.Proofs.YtfiijlmpfpmgiaaGreatDoor
