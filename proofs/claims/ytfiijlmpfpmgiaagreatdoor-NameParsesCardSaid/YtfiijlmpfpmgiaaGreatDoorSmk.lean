/-
  newMaker, of a schema without classes whose types have nothing above them.
-/
import Derived.Test.YtfiijlmpfpmgiaaGreatDoorStwinToXpush
import Derived.Deep.RegionLaw
namespace Go.Proofs.YtfiijlmpfpmgiaaGreatDoor
open Go.RowKit

/-- what names and Oids of the first k types lead to -/
def tmap (ts : List Ty) : Nat → (List UInt8 → Option Int)
  | 0 => fun _ => none
  | k + 1 => match ts[k]? with
    | some t => putL k (tmap ts k) (t.oid :: t.names)
    | none => tmap ts k
def tcnt (ts : List Ty) : Nat → Nat
  | 0 => 0
  | k + 1 => match ts[k]? with
    | some t => tcnt ts k + (1 + t.names.length)
    | none => tcnt ts k
theorem tcnt_le (ts : List Ty) (N : Nat) (h : ∀ t ∈ ts, t.names.length ≤ N) : ∀ k, tcnt ts k ≤ k * (N + 1)
  | 0 => Nat.zero_le _
  | k + 1 => by
    have ih := tcnt_le ts N h k
    rw [tcnt]
    cases e : ts[k]? with
    | none => simp only; rw [Nat.succ_mul]; omega
    | some t =>
      have := h t (List.mem_of_getElem? e)
      simp only
      rw [Nat.succ_mul]; omega

set_option maxRecDepth 100000 in
set_option maxHeartbeats 1000000 in
theorem supOf_flat (w : World) (p : Value) (t : Ty) (nv : Value) (ht : t.sup = ⟨#[]⟩) (_hn : nv.oneCell' = true) :
    Calls Tryz.prog 84 #[p, .agg #[.string t.oid, nv, .string t.sup, .int .i8 t.syn, .int .i8 t.eq, .int .i8 t.ord, .int .i8 t.prt, .bool t.single, .int .u8 t.ix]] w fun e w' => e = .returned (.int .i64 (-1)) ∧ Ext w w' := by
  rw [ht]
  go_enter Tryz.func84, Tryz.ntmps84
  go_wp2
  go_ret
  exact ⟨rfl, (Ext.refl w).alloc _⟩

theorem TySl.nine {w : World} {a : Option Addr} {n cv : Nat} {ps : List TyP} (h : TySl w (.slice a n cv) ps) (k : Nat) (hk : k < ps.length) : ∃ g o, a = some ⟨g, o, none⟩ ∧ ∀ i u, (tyL ps[k])[i]? = some u → w.cell? ⟨g, o + k * 9 + i, none⟩ = some u := by
  obtain ⟨⟨a', c', e, _, _, h3⟩, _⟩ := h
  simp only [Value.slice.injEq] at e
  obtain ⟨g, o, e2, hc⟩ := h3 (by rintro rfl; simp at hk)
  refine ⟨g, o, e.1.trans e2, fun i u hu => ?_⟩
  rw [Nat.add_assoc]
  exact hc _ u (flat_at ps k i hk u hu)
/-- the texts of a type are not too long -/
def Short (t : Ty) : Prop := (∀ y ∈ t.oid :: t.names, y.size ≤ 281474976710656) ∧ t.names.length ≤ 1000

/-- a maker in the making: where it and what it has lies -/
structure MkS (w : World) (n : Nat) (v : Value) (ts : List Ty) (H : Nat) (a : Option Addr) (c : Nat) (qs : List TyP) (cnt : Nat) (f : List UInt8 → Option Int) (k : Nat) (sv : Value) (W : World) : Prop where
  gt : w.heap.size < H
  box : W.heap[w.heap.size]? = some (.cells #[v, .slice none 0 0] 97 (0, 0))
  fst : qs.map Prod.fst = ts
  row : Row W (fun b => w.heap.size < b ∧ b < H) 137 9 (.slice a n c) n (flat qs)
  own : ∀ p ∈ qs, RowE 9 encS W (fun b => w.heap.size < b ∧ b < H) p.2 p.1.names
  mt : MapAt W H cnt f
  mc : MapAt W (H + 1) 0 (fun _ => none)
  sc : W.heap[H + 2]? = some (.cells #[.slice a n c, .slice none 0 0, .map (some H), .map (some (H + 1)), .slice none 0 0, .slice none 0 0, .slice none 0 0] 151 (0, 0))
  mb : W.heap[H + 3]? = some (.cells #[.pointer (some ⟨H + 2, 0, none⟩), sv, .slice none 0 0] 134 (0, 0))
  sup : Row W (fun b => H + 4 ≤ b) 3 1 sv k (List.replicate k (.int .i64 (-1)))
  ext : Ext w W
section
variable {w : World} {n : Nat} {v : Value} {ts : List Ty} {H : Nat} {a : Option Addr} {c : Nat} {qs : List TyP} {cnt : Nat} {f : List UInt8 → Option Int} {k : Nat} {sv : Value} {W W' : World}
theorem blk {W W' : World} {o : Obj} {g : Nat} {S : Nat → Prop} (h : W.heap[g]? = some o) (x : Only S W W') (hS : ¬ S g) : W'.heap[g]? = some o := (x.block g (Array.getElem?_eq_some_iff.1 h).1 hS).trans h
theorem mks_start {w1 : World} (B : w1.heap[w.heap.size]? = some (.cells #[v, .slice none 0 0] 97 (0, 0))) (hz : w.heap.size < w1.heap.size) (hf : qs.map Prod.fst = ts) (hr : Row w1 (fun b => w.heap.size < b) 137 9 (.slice a n c) n (flat qs))
    (ho : ∀ p ∈ qs, RowE 9 encS w1 (fun b => w.heap.size < b) p.2 p.1.names) (x : Ext w w1) :
    MkS w n v ts w1.heap.size a c qs 0 (fun _ => none) 0 (.slice none 0 0) ((((w1.alloc (.map #[] 0)).alloc (.map #[] 0)).alloc (.cells #[.slice a n c, .slice none 0 0, .map (some w1.heap.size), .map (some (w1.heap.size + 1)), .slice none 0 0, .slice none 0 0, .slice none 0 0] 151)).alloc
      (.cells #[.pointer (some ⟨w1.heap.size + 1 + 1, 0, none⟩), .slice none 0 0, .slice none 0 0] 134)) := by
  have e1 : Ext w1 ((((w1.alloc (.map #[] 0)).alloc (.map #[] 0)).alloc (.cells #[.slice a n c, .slice none 0 0, .map (some w1.heap.size), .map (some (w1.heap.size + 1)), .slice none 0 0, .slice none 0 0, .slice none 0 0] 151)).alloc
      (.cells #[.pointer (some ⟨w1.heap.size + 1 + 1, 0, none⟩), .slice none 0 0, .slice none 0 0] 134)) := ((((Ext.refl w1).alloc _).alloc _).alloc _).alloc _
  have lift : ∀ {W1 : World} {S : Nat → Prop} {e : TypeId} {sz m : Nat} {u : Value} {xs : List Value}, Row W1 S e sz u m xs → Row W1 (fun b => S b ∧ b < W1.heap.size) e sz u m xs := fun h => ⟨h.1, fun k hk => ⟨h.2 k hk, h.lt hk⟩⟩
  refine ⟨hz, (e1.block _ hz).trans B, hf, Row.ext (lift hr) e1, fun p hp => Row.ext (lift (ho p hp)) e1, ?_, ?_, ?_, ?_, row_nil _ _ _ _, x.trans e1⟩
  · exact (mapAt_made w1).ext ((((Ext.refl _).alloc _).alloc _).alloc _)
  · have := (mapAt_made (w1.alloc (.map #[] 0))).ext (((Ext.refl _).alloc (.cells #[.slice a n c, .slice none 0 0, .map (some w1.heap.size), .map (some (w1.heap.size + 1)), .slice none 0 0, .slice none 0 0, .slice none 0 0] 151)).alloc
      (.cells #[.pointer (some ⟨w1.heap.size + 1 + 1, 0, none⟩), .slice none 0 0, .slice none 0 0] 134))
    simpa using this
  · rw [Below.heap_alloc _ _ _ (by simp)]
    have := heap_alloc_new ((w1.alloc (.map #[] 0)).alloc (.map #[] 0)) (.cells #[.slice a n c, .slice none 0 0, .map (some w1.heap.size), .map (some (w1.heap.size + 1)), .slice none 0 0, .slice none 0 0, .slice none 0 0] 151)
    simp only [World.size_alloc] at this
    exact this
  · have := heap_alloc_new (((w1.alloc (.map #[] 0)).alloc (.map #[] 0)).alloc (.cells #[.slice a n c, .slice none 0 0, .map (some w1.heap.size), .map (some (w1.heap.size + 1)), .slice none 0 0, .slice none 0 0, .slice none 0 0] 151)) (.cells #[.pointer (some ⟨w1.heap.size + 1 + 1, 0, none⟩), .slice none 0 0, .slice none 0 0] 134)
    simp only [World.size_alloc] at this
    exact this
theorem MkS.lt (h : MkS w n v ts H a c qs cnt f k sv W) : H + 3 < W.heap.size := (Array.getElem?_eq_some_iff.1 h.mb).1
/-- what lies elsewhere may turn -/
theorem MkS.only {S : Nat → Prop} (h : MkS w n v ts H a c qs cnt f k sv W) (x : Only S W W') (hS : ∀ g, S g → H + 4 ≤ g) (hs : ∀ g, Go.Proofs.YtfiijlmpfpmgiaaGreatDoor.own sv g → ¬ S g) : MkS w n v ts H a c qs cnt f k sv W' := by
  have hg := h.gt
  have ns : ∀ g, g < H + 4 → ¬ S g := fun g hg hs => by have := hS g hs; omega
  exact ⟨h.gt, blk h.box x (ns _ (by omega)), h.fst, Row.kept h.row x (fun g hg => ns g (by omega)), fun p hp => Row.kept (h.own p hp) x (fun g hg => ns g (by omega)), h.mt.only x (ns _ (by omega)), h.mc.only x (ns _ (by omega)),
    blk h.sc x (ns _ (by omega)), blk h.mb x (ns _ (by omega)), (Row.kept h.sup.min x hs).wide (fun g hg => h.sup.2 g hg), h.ext.then x (fun g hs => by have := hS g hs; omega)⟩
theorem MkS.grow (h : MkS w n v ts H a c qs cnt f k sv W) (x : Ext W W') : MkS w n v ts H a c qs cnt f k sv W' :=
  h.only (S := fun _ => False) x.only (fun _ hf => hf.elim) (fun _ _ hf => hf)
/-- one number more in the maker's row -/
theorem MkS.push {sv' : Value} {W3 : World} (h : MkS w n v ts H a c qs cnt f k sv W) (r : Row W3 (Up (Go.Proofs.YtfiijlmpfpmgiaaGreatDoor.own sv) W.heap.size) 3 1 sv' (k + 1) (List.replicate k (.int .i64 (-1)) ++ [.int .i64 (-1)])) (x : Only (Go.Proofs.YtfiijlmpfpmgiaaGreatDoor.own sv) W W3) :
    MkS w n v ts H a c qs cnt f (k + 1) sv' (W3.setCell ⟨H + 3, 1, none⟩ sv') := by
  have hg := h.gt
  have hlt := h.lt
  have hS : ∀ g, Go.Proofs.YtfiijlmpfpmgiaaGreatDoor.own sv g → H + 4 ≤ g := fun g hg => h.sup.2 g hg
  have hR : ∀ g, Up (Go.Proofs.YtfiijlmpfpmgiaaGreatDoor.own sv) W.heap.size g → H + 4 ≤ g := fun g hg => hg.elim (hS g) (fun h' => by omega)
  have ns : ∀ g, g < H + 4 → ¬ Go.Proofs.YtfiijlmpfpmgiaaGreatDoor.own sv g := fun g hg hs => by have := hS g hs; omega
  have y := only_set W3 (H + 3) 1 sv'
  have hm := blk h.mb x (ns _ (by omega))
  refine ⟨h.gt, blk (blk h.box x (ns _ (by omega))) y (by omega), h.fst, Row.kept (Row.kept h.row x (fun g hg => ns g (by omega))) y (fun g hg => by omega), fun p hp => Row.kept (Row.kept (h.own p hp) x (fun g hg => ns g (by omega))) y (fun g hg => by omega),
    (h.mt.only x (ns _ (by omega))).only y (by omega), (h.mc.only x (ns _ (by omega))).only y (by omega), blk (blk h.sc x (ns _ (by omega))) y (by omega), heap_setCell_at W3 (H + 3) 1 sv' _ _ _ hm, ?_, (h.ext.then x (fun g hs => by have := hS g hs; omega)).then y (fun g hs => by omega)⟩
  have r2 := Row.kept (r.wide hR) y (fun g hg => by omega)
  rwa [← List.replicate_succ'] at r2
theorem MkS.put {cnt' : Nat} {f' : List UInt8 → Option Int} (h : MkS w n v ts H a c qs cnt f k sv W) (x : Only (fun b => b = H) W W') (hm : MapAt W' H cnt' f') : MkS w n v ts H a c qs cnt' f' k sv W' := by
  have hg := h.gt
  exact ⟨h.gt, blk h.box x (by omega), h.fst, Row.kept h.row x (fun g hg => by omega), fun p hp => Row.kept (h.own p hp) x (fun g hg => by omega), hm, h.mc.only x (by omega),
    blk h.sc x (by omega), blk h.mb x (by omega), Row.kept h.sup x (fun g hg => by omega), h.ext.then x (fun g hs => by omega)⟩
end

theorem infoInt : (Tryz.prog.info? 3).map (fun i => (i.zero, i.size, i.bytes)) = some (some (.int .i64 0), 1, 8) := by kernel_rfl
theorem mk_cell {w : World} {n : Nat} {v : Value} {ts : List Ty} {H : Nat} {a : Option Addr} {c : Nat} {qs : List TyP} {cnt : Nat} {f : List UInt8 → Option Int} {k : Nat} {sv : Value} {W W' : World} (h : MkS w n v ts H a c qs cnt f k sv W) (x : Only (own sv) W W') : W'.cell? ⟨H + 3, 1, none⟩ = some sv ∧ W'.frozen? ⟨H + 3, 1, none⟩ = false := by
  have hm := blk h.mb x (fun hs => by have h2 : H + 4 ≤ H + 3 := h.sup.2 _ hs; omega)
  exact ⟨cell_of_row _ _ 1 _ _ _ hm, by simp [World.frozen?, hm]⟩
set_option maxRecDepth 100000 in
set_option maxHeartbeats 8000000 in
theorem newMaker_any (w : World) (v : Value) (ps : List TyP) (hs : TySl w v ps) (hl : ps.length ≤ 1024) (hsh : ∀ p ∈ ps, Short p.1) (hflat : ∀ p ∈ ps, p.1.sup = ⟨#[]⟩) :
    Calls Tryz.prog 63 #[.agg #[v, .slice none 0 0]] w fun e w' => ∃ H a cap qs sa cs, w.heap.size < H ∧ e = .returned (.pointer (some ⟨H + 3, 0, none⟩)) ∧ qs.map Prod.fst = ps.map Prod.fst ∧
      Row w' (fun b => w.heap.size < b ∧ b < H) 137 9 (.slice a ps.length cap) ps.length (flat qs) ∧ (∀ p ∈ qs, RowE 9 encS w' (fun b => w.heap.size < b ∧ b < H) p.2 p.1.names) ∧
      MapAt w' H (tcnt (ps.map Prod.fst) ps.length) (tmap (ps.map Prod.fst) ps.length) ∧ MapAt w' (H + 1) 0 (fun _ => none) ∧
      w'.heap[H + 2]? = some (.cells #[.slice a ps.length cap, .slice none 0 0, .map (some H), .map (some (H + 1)), .slice none 0 0, .slice none 0 0, .slice none 0 0] 151 (0, 0)) ∧
      w'.heap[H + 3]? = some (.cells #[.pointer (some ⟨H + 2, 0, none⟩), .slice sa ps.length cs, .slice none 0 0] 134 (0, 0)) ∧
      Row w' (fun b => H + 4 ≤ b) 3 1 (.slice sa ps.length cs) ps.length (List.replicate ps.length (.int .i64 (-1))) ∧ Ext w w' := by
  have htw := fun w1 (x : Ext w w1) => twin_any w1 v ps (hs.ext x) (by omega)
  have hmix : Tryz.prog.follows Departure.mixedOrders = true := by kernel_rfl
  have hmm := @run_makeMap Tryz.prog
  have hsr : Hid (TySl w v ps) := hs
  obtain ⟨⟨av, cv, rfl, _⟩, _⟩ := hs
  generalize hn : ps.length = n at *
  have hnh : Hid (ps.length = n) := hn
  clear hn
  go_enter Tryz.func63, Tryz.ntmps63
  go_upto_region 1 with fail
  go_cut [3] from 12 to 19 (fun s3 wx => ∃ H a c qs, s3 = .pointer (some ⟨H + 3, 0, none⟩) ∧ MkS w n (.slice av n cv) (ps.map Prod.fst) H a c qs 0 (fun _ => none) 0 (.slice none 0 0) wx)
  case first =>
    go_wp2_with fail
    go_at_call 82
    refine (htw _ ((Ext.refl w).alloc _)).mono ?_
    rintro _ w1 ⟨a1, c1, qs, rfl, hfst, row1, own1, x1⟩
    have hB1 := (x1.block w.heap.size (by simp)).trans (heap_alloc_new w _)
    have x01 : Ext w w1 := ((Ext.refl w).alloc _).trans x1
    have hz1 : Hid (w.heap.size < w1.heap.size) := by have := x1.size; simp at this; exact this
    have row1h : Hid _ := row1
    have own1h : Hid _ := own1
    clear row1 own1
    go_wp2
    go_meet
    exact ⟨w1.heap.size, a1, c1, qs, rfl, mks_start hB1 hz1.out hfst (Row.wide row1h.out (fun b hb => by simp at hb; omega)) (fun p hp => Row.wide (own1h.out p hp) (fun b hb => by simp at hb; omega)) x01⟩
  case rest =>
    obtain ⟨H, a, c, qs, rfl, M0⟩ := hcut
    have d0 := cell_of_row _ _ 0 _ _ _ M0.box
    have d1 := cell_of_row _ _ 1 _ _ _ M0.box
    simp only [List.getElem?_toArray, List.getElem?_cons_zero, List.getElem?_cons_succ] at d0 d1
    have M0h : Hid _ := M0
    clear M0
    go_wp2
    go_loopw [4, 5, 23] (fun _ _ i wr => ∃ k : Nat, k ≤ n ∧ i = .int .i64 k ∧ Hid (MkS w n (.slice av n cv) (ps.map Prod.fst) H a c qs (tcnt (ps.map Prod.fst) k) (tmap (ps.map Prod.fst) k) 0 (.slice none 0 0) wr)) (fun _ _ i _ => n - (intOf i).toNat)
    case atStart => exact ⟨0, Nat.zero_le _, rfl, M0h⟩
    case round =>
      obtain ⟨k, hk, rfl, HM⟩ := hrel
      clear M0h d0 d1
      have d0 := cell_of_row _ _ 0 _ _ _ HM.out.box
      have d1 := cell_of_row _ _ 1 _ _ _ HM.out.box
      simp only [List.getElem?_toArray, List.getElem?_cons_zero, List.getElem?_cons_succ] at d0 d1
      by_cases hlt : k < n
      · have hlt' : (k : Int) < (n : Int) := by omega
        have hkp : k < ps.length := by rw [hnh.out]; exact hlt
        obtain ⟨g, o, rfl, nc⟩ := (hsr.out.ext HM.out.ext).nine k hkp
        obtain ⟨hnk, _⟩ := (hsr.out.ext HM.out.ext).2 ps[k] (List.getElem_mem _)
        have hshk := hsh ps[k] (List.getElem_mem _)
        have hts : (ps.map Prod.fst)[k]? = some ps[k].1 := by simp [hkp]
        have hcnt : tcnt (ps.map Prod.fst) k ≤ 1000000000 := by
          have h1 := tcnt_le (ps.map Prod.fst) 1000 (fun t ht => by obtain ⟨p, hp, rfl⟩ := List.mem_map.1 ht; exact (hsh p hp).2) k
          have h2 : k * (1000 + 1) ≤ 1024 * 1001 := Nat.mul_le_mul (by omega) (Nat.le_refl _)
          omega
        have hput := fun w1 (M : MkS w n (.slice (some ⟨g, o, none⟩) n cv) (ps.map Prod.fst) H a c qs (tcnt (ps.map Prod.fst) k) (tmap (ps.map Prod.fst) k) 0 (.slice none 0 0) w1) => put_any w1 H _ _ (k : Int) (WalkArith.wf_i64 (n := (k : Int)) (by constructor <;> omega)) ps[k].1.oid ps[k].2 ps[k].1.names M.mt (((hsr.out.ext M.ext).2 ps[k] (List.getElem_mem _)).1) hshk.1 (by have := hshk.2; omega) hcnt
        have hT : Hid (tmap (ps.map Prod.fst) (k + 1) = putL k (tmap (ps.map Prod.fst) k) (ps[k].1.oid :: ps[k].1.names) ∧ tcnt (ps.map Prod.fst) (k + 1) = tcnt (ps.map Prod.fst) k + (1 + ps[k].1.names.length)) := ⟨by rw [tmap, hts], by rw [tcnt, hts]⟩
        obtain ⟨⟨⟨oid, names, sup, syn, eq, ord, prt, single, ix⟩, nv⟩, hq⟩ : ∃ q, ps[k] = q := ⟨_, rfl⟩
        rw [hq] at hnk hT nc
        simp only [hq] at hput
        obtain ⟨na, nn, nc', rfl, _⟩ := hnk.shape
        have c0 := nc 0 _ rfl
        have c1 := nc 1 _ rfl
        have c2 := nc 2 _ rfl
        have c3 := nc 3 _ rfl
        have c4 := nc 4 _ rfl
        have c5 := nc 5 _ rfl
        have c6 := nc 6 _ rfl
        have c7 := nc 7 _ rfl
        have c8 := nc 8 _ rfl
        simp only [Nat.add_zero] at c0
        clear nc hts hq hshk
        go_upto_region 5 with fail
        have M2 := HM.out.grow ((Ext.refl wr).alloc (.cells #[.string oid, .slice na nn nc', .string sup, .int .i8 syn, .int .i8 eq, .int .i8 ord, .int .i8 prt, .bool single, .int .u8 ix] 137))
        have hv := heap_alloc_new wr (.cells #[.string oid, .slice na nn nc', .string sup, .int .i8 syn, .int .i8 eq, .int .i8 ord, .int .i8 prt, .bool single, .int .u8 ix] 137)
        generalize wr.alloc (.cells #[.string oid, .slice na nn nc', .string sup, .int .i8 syn, .int .i8 eq, .int .i8 ord, .int .i8 prt, .bool single, .int .u8 ix] 137) = w2 at M2 hv ⊢
        have e0 := cell_of_row _ _ 0 _ _ _ M2.mb
        have e1 := cell_of_row _ _ 2 _ _ _ M2.sc
        have e2 := cell_of_row _ _ 0 _ _ _ hv
        have e3 := cell_of_row _ _ 1 _ _ _ hv
        simp only [List.getElem?_toArray, List.getElem?_cons_zero, List.getElem?_cons_succ] at e0 e1 e2 e3
        have M3 := M2.grow (Ext.refl w2).drew
        have hp3 := hput _ M3
        have M3h : Hid _ := M3
        clear M2 M3 hv hput
        go_region_with_o (go_at_call 83; refine hp3.mono ?_; rintro _ w4 ⟨rfl, m4, o4⟩)
        all_goals go_wp2
        all_goals go_roundw
        all_goals try (simp [intOf]; omega)
        all_goals
          refine ⟨k + 1, hlt, by go_num, ?_⟩
          rw [hT.out.1, hT.out.2]
          exact M3h.out.put o4 m4
      · have hlt' : ¬ (k : Int) < (n : Int) := by omega
        obtain rfl : k = n := by omega
        go_wp2
        refine wp_loop_rounds 1 ?_
        rw [rounds_succ]
        go_wp2
        go_loopw [9, 67] (fun _ i wx => ∃ (j : Nat) (sa : Option Addr) (cs : Nat), j ≤ k ∧ i = .int .i64 j ∧ Hid (MkS w k (.slice av k cv) (ps.map Prod.fst) H a c qs (tcnt (ps.map Prod.fst) k) (tmap (ps.map Prod.fst) k) j (.slice sa j cs) wx)) (fun _ i _ => k - (intOf i).toNat)
        case atStart => exact ⟨0, none, 0, Nat.zero_le _, rfl, HM⟩
        case round =>
          obtain ⟨j, sa, cs, hj, rfl, HM2⟩ := hrel
          clear d0 d1 HM
          have d0 := cell_of_row _ _ 0 _ _ _ HM2.out.box
          have d1 := cell_of_row _ _ 1 _ _ _ HM2.out.box
          simp only [List.getElem?_toArray, List.getElem?_cons_zero, List.getElem?_cons_succ] at d0 d1
          by_cases hlt : j < k
          · have hlt2 : (j : Int) < (k : Int) := by omega
            have hjp : j < ps.length := by rw [hnh.out]; exact hlt
            obtain ⟨g, o, rfl, nc⟩ := (hsr.out.ext HM2.out.ext).nine j hjp
            obtain ⟨hnk, _⟩ := (hsr.out.ext HM2.out.ext).2 ps[j] (List.getElem_mem _)
            have hfl := hflat ps[j] (List.getElem_mem _)
            obtain ⟨⟨⟨oid, names, sup, syn, eq, ord, prt, single, ix⟩, nv⟩, hq⟩ : ∃ q, ps[j] = q := ⟨_, rfl⟩
            rw [hq] at hnk nc hfl
            obtain ⟨na, nn, nc', rfl, _⟩ := hnk.shape
            obtain rfl : sup = ⟨#[]⟩ := hfl
            have c0 := nc 0 _ rfl
            have c1 := nc 1 _ rfl
            have c2 := nc 2 _ rfl
            have c3 := nc 3 _ rfl
            have c4 := nc 4 _ rfl
            have c5 := nc 5 _ rfl
            have c6 := nc 6 _ rfl
            have c7 := nc 7 _ rfl
            have c8 := nc 8 _ rfl
            simp only [Nat.add_zero] at c0
            clear nc hq
            go_upto_region 15 with fail
            have M2 := HM2.out.grow ((Ext.refl wr).alloc (.cells #[.string oid, .slice na nn nc', .string ⟨#[]⟩, .int .i8 syn, .int .i8 eq, .int .i8 ord, .int .i8 prt, .bool single, .int .u8 ix] 137))
            have hv := heap_alloc_new wr (.cells #[.string oid, .slice na nn nc', .string ⟨#[]⟩, .int .i8 syn, .int .i8 eq, .int .i8 ord, .int .i8 prt, .bool single, .int .u8 ix] 137)
            generalize wr.alloc (.cells #[.string oid, .slice na nn nc', .string ⟨#[]⟩, .int .i8 syn, .int .i8 eq, .int .i8 ord, .int .i8 prt, .bool single, .int .u8 ix] 137) = w2 at M2 hv ⊢
            generalize wr.heap.size = gv at hv ⊢
            have e1 := cell_of_row _ _ 1 _ _ _ M2.mb
            have v0 := cell_of_row _ _ 0 _ _ _ hv
            have v1 := cell_of_row _ _ 1 _ _ _ hv
            have v2 := cell_of_row _ _ 2 _ _ _ hv
            have v3 := cell_of_row _ _ 3 _ _ _ hv
            have v4 := cell_of_row _ _ 4 _ _ _ hv
            have v5 := cell_of_row _ _ 5 _ _ _ hv
            have v6 := cell_of_row _ _ 6 _ _ _ hv
            have v7 := cell_of_row _ _ 7 _ _ _ hv
            have v8 := cell_of_row _ _ 8 _ _ _ hv
            simp only [List.getElem?_toArray, List.getElem?_cons_zero, List.getElem?_cons_succ] at e1 v0 v1 v2 v3 v4 v5 v6 v7 v8
            have hsup : Calls Tryz.prog 84 #[.pointer (some ⟨H + 3, 0, none⟩), .agg #[.string oid, .slice na nn nc', .string ⟨#[]⟩, .int .i8 syn, .int .i8 eq, .int .i8 ord, .int .i8 prt, .bool single, .int .u8 ix]] w2.drew fun e w4 => e = .returned (.int .i64 (-1)) ∧ Hid (Ext w2 w4) ∧ w4.cell? ⟨H + 3, 1, none⟩ = some (.slice sa j cs) ∧ (∀ ob : Obj, (w4.alloc ob).cell? ⟨H + 3, 1, none⟩ = some (.slice sa j cs)) := by
              refine (supOf_flat w2.drew (.pointer (some ⟨H + 3, 0, none⟩)) ⟨oid, names, ⟨#[]⟩, syn, eq, ord, prt, single, ix⟩ (.slice na nn nc') rfl rfl).mono ?_
              rintro _ w4 ⟨rfl, x4⟩
              have x4' : Ext w2 w4 := (Ext.refl w2).drew.trans x4
              exact ⟨rfl, x4', x4'.cell e1, fun ob => (x4'.alloc ob).cell e1⟩
            have M2h : Hid _ := M2
            clear M2 hv
            go_region_law_o ((first
              | (refine step_push (by rfl) _ _ 131 3 (.int .i64 0) 1 8 infoInt Tryz.underlying131 rfl (by rfl) w4 (by exact (Ext.refl w4).alloc _) (own (.slice sa j cs)) (.slice sa j cs) j (List.replicate j (.int .i64 (-1))) (Row.min (M2h.out.grow hx4.out).sup) (by rfl) w4.heap.size 1 (by rfl) [.int .i64 (-1)] (heap_alloc_new w4 _) (by rfl) (by intro u hu; simp only [List.mem_singleton] at hu; subst hu; rfl) (by unfold maxLen; omega) (by omega) ?_; intro g5 cap5 w5 r5 o5; obtain ⟨q1, f1⟩ := mk_cell (M2h.out.grow hx4.out) o5)
              | (go_simp; go_at_call 84; refine hsup.mono ?_; rintro _ w4 ⟨rfl, hx4, e4, e4A⟩; dsimp only)))
            all_goals go_wp2
            all_goals go_roundw
            all_goals try (simp [intOf]; omega)
            all_goals exact ⟨j + 1, _, _, hlt, by go_num, MkS.push (M2h.out.grow hx4.out) r5 o5⟩
          · have hlt2 : ¬ (j : Int) < (k : Int) := by omega
            obtain rfl : j = k := by omega
            go_wp2
            refine wp_loop_rounds 1 ?_
            rw [rounds_succ]
            go_wp2
            go_ret
            have M := HM2.out
            exact ⟨H, a, c, qs, sa, cs, M.gt, rfl, M.fst, M.row, M.own, M.mt, M.mc, M.sc, M.mb, M.sup, M.ext⟩
end Go.Proofs.YtfiijlmpfpmgiaaGreatDoor
