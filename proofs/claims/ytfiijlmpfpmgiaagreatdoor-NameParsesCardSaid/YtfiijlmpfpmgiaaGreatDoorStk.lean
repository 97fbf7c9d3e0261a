/-
  A maker that has taken some of its types; the table of rules; takeSup of types that have nothing above them.
-/
import Derived.Test.YtfiijlmpfpmgiaaGreatDoorSmk
namespace Go.Proofs.YtfiijlmpfpmgiaaGreatDoor
open Go.RowKit

theorem Row.apart {W : World} {S S' : Nat → Prop} {e e' : TypeId} {sz sz' n n' : Nat} {u v : Value} {xs ys : List Value} (h : Row W S e sz u n xs) (k : Row W S' e' sz' v n' ys) (he : e ≠ e') : ∀ g, own u g → ¬ own v g := by
  intro g h1 h2
  rcases h.1.2 with ⟨rfl, _⟩ | ⟨g1, c1, u1, rfl, _, hg1, _⟩
  · simp [own, Value.ownBlock] at h1
  rcases k.1.2 with ⟨rfl, _⟩ | ⟨g2, c2, u2, rfl, _, hg2, _⟩
  · simp [own, Value.ownBlock] at h2
  simp only [own, Value.ownBlock, Option.some.injEq] at h1 h2
  subst h1 h2
  rw [hg1] at hg2
  simp only [Option.some.injEq, Obj.cells.injEq] at hg2
  exact he hg2.2.1
theorem Row.keptMin {W W' : World} {S S' : Nat → Prop} {e : TypeId} {sz n : Nat} {u : Value} {xs : List Value} (h : Row W S e sz u n xs) (x : Only S' W W') (hd : ∀ g, own u g → ¬ S' g) : Row W' S e sz u n xs := (Row.kept h.min x hd).wide (fun g hg => h.2 g hg)

/-- what else stands: the slice of the classes, the places above them, the classes' words, and blocks that stay as they were in a world -/
structure Ex where
  W0 : World
  K : Nat → Prop
  cv : Value
  uv : Value
  cn : Nat
  cf : List UInt8 → Option Int
structure TkS (X : Ex) (w : World) (n : Nat) (ts : List Ty) (H : Nat) (a : Option Addr) (c : Nat) (qs : List TyP) (cnt : Nat) (f : List UInt8 → Option Int) (sv : Value) (ka kf : Nat) (av fv : Value) (W : World) : Prop where
  gt : w.heap.size < H
  fst : qs.map Prod.fst = ts
  row : Row W (fun b => w.heap.size < b ∧ b < H) 137 9 (.slice a n c) n (flat qs)
  own : ∀ p ∈ qs, RowE 9 encS W (fun b => w.heap.size < b ∧ b < H) p.2 p.1.names
  mt : MapAt W H cnt f
  mc : MapAt W (H + 1) X.cn X.cf
  sc : W.heap[H + 2]? = some (.cells #[.slice a n c, X.cv, .map (some H), .map (some (H + 1)), fv, av, .slice none 0 0] 151 (0, 0))
  mb : W.heap[H + 3]? = some (.cells #[.pointer (some ⟨H + 2, 0, none⟩), sv, X.uv] 134 (0, 0))
  sup : Row W (fun b => H + 4 ≤ b) 3 1 sv n (List.replicate n (.int .i64 (-1)))
  ful : Row W (fun b => H + 4 ≤ b) 137 9 fv kf (flat (qs.take kf))
  abv : Row W (fun b => H + 4 ≤ b) 131 1 av ka (List.replicate ka (.slice none 0 0))
  ext : Ext w W
  fix : ∀ b, X.K b → b < W.heap.size ∧ W.heap[b]? = X.W0.heap[b]? ∧ (b < H ∨ H + 4 ≤ b)
  nka : ∀ b, Go.Proofs.YtfiijlmpfpmgiaaGreatDoor.own av b → ¬ X.K b
  nkf : ∀ b, Go.Proofs.YtfiijlmpfpmgiaaGreatDoor.own fv b → ¬ X.K b
section
variable {X : Ex} {w : World} {n : Nat} {ts : List Ty} {H : Nat} {a : Option Addr} {c : Nat} {qs : List TyP} {cnt : Nat} {f : List UInt8 → Option Int} {sv : Value} {ka kf : Nat} {av fv : Value} {W W' : World}
theorem TkS.lt (h : TkS X w n ts H a c qs cnt f sv ka kf av fv W) : H + 3 < W.heap.size := (Array.getElem?_eq_some_iff.1 h.mb).1
theorem TkS.len (h : TkS X w n ts H a c qs cnt f sv ka kf av fv W) : qs.length = n := by
  have := h.row.1.1
  rw [flat_len] at this
  omega
theorem TkS.grow (h : TkS X w n ts H a c qs cnt f sv ka kf av fv W) (x : Ext W W') : TkS X w n ts H a c qs cnt f sv ka kf av fv W' := by
  have b1 : ∀ g, g < W.heap.size → W'.heap[g]? = W.heap[g]? := x.block
  have hl := h.lt
  exact ⟨h.gt, h.fst, h.row.ext x, fun p hp => RowE.ext (h.own p hp) x, h.mt.ext x, h.mc.ext x, (b1 _ (by omega)).trans h.sc, (b1 _ (by omega)).trans h.mb, h.sup.ext x, h.ful.ext x, h.abv.ext x, h.ext.trans x, fun b hb => ⟨Nat.lt_of_lt_of_le (h.fix b hb).1 x.size, (b1 _ (h.fix b hb).1).trans (h.fix b hb).2.1, (h.fix b hb).2.2⟩, h.nka, h.nkf⟩
theorem fix_set {X : Ex} {H i : Nat} {u : Value} {S : Nat → Prop} {W W3 : World} (h : ∀ b, X.K b → b < W.heap.size ∧ W.heap[b]? = X.W0.heap[b]? ∧ (b < H ∨ H + 4 ≤ b)) (x : Only S W W3) (hn : ∀ b, S b → ¬ X.K b) :
    ∀ b, X.K b → b < (W3.setCell ⟨H + 2, i, none⟩ u).heap.size ∧ (W3.setCell ⟨H + 2, i, none⟩ u).heap[b]? = X.W0.heap[b]? ∧ (b < H ∨ H + 4 ≤ b) := by
  intro b hb
  obtain ⟨h1, h2, h3⟩ := h b hb
  have y := only_set W3 (H + 2) i u
  exact ⟨Nat.lt_of_lt_of_le (Nat.lt_of_lt_of_le h1 x.size) y.size, ((y.block b (Nat.lt_of_lt_of_le h1 x.size) (by omega)).trans (x.block b h1 (fun hs => hn b hs hb))).trans h2, h3⟩
theorem TkS.pushAbove {av' : Value} {W3 : World} (h : TkS X w n ts H a c qs cnt f sv ka kf av fv W) (r : Row W3 (Up (Go.Proofs.YtfiijlmpfpmgiaaGreatDoor.own av) W.heap.size) 131 1 av' (ka + 1) (List.replicate ka (.slice none 0 0) ++ [.slice none 0 0])) (x : Only (Go.Proofs.YtfiijlmpfpmgiaaGreatDoor.own av) W W3) :
    TkS X w n ts H a c qs cnt f sv (ka + 1) kf av' fv (W3.setCell ⟨H + 2, 5, none⟩ av') := by
  have hg := h.gt
  have hlt := h.lt
  have hS : ∀ g, Go.Proofs.YtfiijlmpfpmgiaaGreatDoor.own av g → H + 4 ≤ g := fun g hg => h.abv.2 g hg
  have hR : ∀ g, Up (Go.Proofs.YtfiijlmpfpmgiaaGreatDoor.own av) W.heap.size g → H + 4 ≤ g := fun g hg => hg.elim (hS g) (fun h' => by omega)
  have ns : ∀ g, g < H + 4 → ¬ Go.Proofs.YtfiijlmpfpmgiaaGreatDoor.own av g := fun g hg hs => by have := hS g hs; omega
  have y := only_set W3 (H + 2) 5 av'
  refine ⟨h.gt, h.fst, Row.kept (Row.kept h.row x (fun g hg => ns g (by omega))) y (fun g hg => by omega), fun p hp => Row.kept (Row.kept (h.own p hp) x (fun g hg => ns g (by omega))) y (fun g hg => by omega),
    (h.mt.only x (ns _ (by omega))).only y (by omega), (h.mc.only x (ns _ (by omega))).only y (by omega), heap_setCell_at W3 (H + 2) 5 av' _ _ _ (blk h.sc x (ns _ (by omega))), blk (blk h.mb x (ns _ (by omega))) y (by omega),
    Row.kept (Row.keptMin h.sup x (Row.apart h.sup h.abv (by decide))) y (fun g hg => by omega), Row.kept (Row.keptMin h.ful x (Row.apart h.ful h.abv (by decide))) y (fun g hg => by omega), ?_, (h.ext.then x (fun g hs => by have := hS g hs; omega)).then y (fun g hs => by omega), fix_set h.fix x h.nka, fun b hb hk => (r.2 b hb).elim (fun h' => h.nka b h' hk) (fun h' => by have := (h.fix b hk).1; omega), h.nkf⟩
  have r2 := Row.kept (r.wide hR) y (fun g hg => by omega)
  rwa [← List.replicate_succ'] at r2
theorem TkS.pushFull {fv' : Value} {W3 : World} {k : Nat} (hk : k < qs.length) (h : TkS X w n ts H a c qs cnt f sv ka k av fv W) (r : Row W3 (Up (Go.Proofs.YtfiijlmpfpmgiaaGreatDoor.own fv) W.heap.size) 137 9 fv' (k + 1) (flat (qs.take k) ++ tyL qs[k])) (x : Only (Go.Proofs.YtfiijlmpfpmgiaaGreatDoor.own fv) W W3) :
    TkS X w n ts H a c qs cnt f sv ka (k + 1) av fv' (W3.setCell ⟨H + 2, 4, none⟩ fv') := by
  have hg := h.gt
  have hlt := h.lt
  have hS : ∀ g, Go.Proofs.YtfiijlmpfpmgiaaGreatDoor.own fv g → H + 4 ≤ g := fun g hg => h.ful.2 g hg
  have hR : ∀ g, Up (Go.Proofs.YtfiijlmpfpmgiaaGreatDoor.own fv) W.heap.size g → H + 4 ≤ g := fun g hg => hg.elim (hS g) (fun h' => by omega)
  have ns : ∀ g, g < H + 4 → ¬ Go.Proofs.YtfiijlmpfpmgiaaGreatDoor.own fv g := fun g hg hs => by have := hS g hs; omega
  have y := only_set W3 (H + 2) 4 fv'
  refine ⟨h.gt, h.fst, Row.kept (Row.kept h.row x (fun g hg => ns g (by omega))) y (fun g hg => by omega), fun p hp => Row.kept (Row.kept (h.own p hp) x (fun g hg => ns g (by omega))) y (fun g hg => by omega),
    (h.mt.only x (ns _ (by omega))).only y (by omega), (h.mc.only x (ns _ (by omega))).only y (by omega), heap_setCell_at W3 (H + 2) 4 fv' _ _ _ (blk h.sc x (ns _ (by omega))), blk (blk h.mb x (ns _ (by omega))) y (by omega),
    Row.kept (Row.keptMin h.sup x (Row.apart h.sup h.ful (by decide))) y (fun g hg => by omega), ?_, Row.kept (Row.keptMin h.abv x (Row.apart h.abv h.ful (by decide))) y (fun g hg => by omega), (h.ext.then x (fun g hs => by have := hS g hs; omega)).then y (fun g hs => by omega), fix_set h.fix x h.nkf, h.nka, fun b hb hk => (r.2 b hb).elim (fun h' => h.nkf b h' hk) (fun h' => by have := (h.fix b hk).1; omega)⟩
  have r2 := Row.kept (r.wide hR) y (fun g hg => by omega)
  rw [List.take_succ_eq_append_getElem hk, flat_app]
  have e : flat [qs[k]] = tyL qs[k] := by rw [flat_cons, flat_nil, List.append_nil]
  rw [e]
  exact r2
end
theorem infoSI : (Tryz.prog.info? 131).map (fun i => (i.zero, i.size, i.bytes)) = some (some (.slice none 0 0), 1, 24) := by kernel_rfl
/-- a number of the maker's row -/
theorem TkS.supAt {X : Ex} {w : World} {n : Nat} {ts : List Ty} {H : Nat} {a : Option Addr} {c : Nat} {qs : List TyP} {cnt : Nat} {f : List UInt8 → Option Int} {sv : Value} {ka kf : Nat} {av fv : Value} {W : World} (h : TkS X w n ts H a c qs cnt f sv ka kf av fv W) (k : Nat) (hk : k < n) : ∃ g cs, sv = .slice (some ⟨g, 0, none⟩) n cs ∧ n ≤ cs ∧ W.cell? ⟨g, k, none⟩ = some (.int .i64 (-1)) := by
  have hc := fun g hg => World.ownsRow.cells h.sup.1 (g := g) hg
  rcases h.sup.1.2 with ⟨rfl, hl⟩ | ⟨g, cap, cur, rfl, _, _, h1, _⟩
  · omega
  · refine ⟨g, cap, rfl, h1, ?_⟩
    have := hc g rfl k (.int .i64 (-1)) (by rw [List.getElem?_replicate, if_pos hk])
    rwa [Addr.add_lit, Nat.zero_add] at this

theorem tk_cell5 {X : Ex} {w : World} {n : Nat} {ts : List Ty} {H : Nat} {a : Option Addr} {c : Nat} {qs : List TyP} {cnt : Nat} {f : List UInt8 → Option Int} {sv : Value} {ka kf : Nat} {av fv : Value} {W W' : World} (h : TkS X w n ts H a c qs cnt f sv ka kf av fv W) (x : Only (own av) W W') : W'.cell? ⟨H + 2, 5, none⟩ = some av ∧ W'.frozen? ⟨H + 2, 5, none⟩ = false ∧ W'.cell? ⟨H + 3, 0, none⟩ = some (.pointer (some ⟨H + 2, 0, none⟩)) := by
  have hm := blk h.sc x (fun hs => by have h2 : H + 4 ≤ H + 2 := h.abv.2 _ hs; omega)
  have hb := blk h.mb x (fun hs => by have h2 : H + 4 ≤ H + 3 := h.abv.2 _ hs; omega)
  exact ⟨cell_of_row _ _ 5 _ _ _ hm, by simp [World.frozen?, hm], cell_of_row _ _ 0 _ _ _ hb⟩
theorem tk_cell4 {X : Ex} {w : World} {n : Nat} {ts : List Ty} {H : Nat} {a : Option Addr} {c : Nat} {qs : List TyP} {cnt : Nat} {f : List UInt8 → Option Int} {sv : Value} {ka kf : Nat} {av fv : Value} {W W' : World} (h : TkS X w n ts H a c qs cnt f sv ka kf av fv W) (x : Only (own fv) W W') : W'.cell? ⟨H + 2, 4, none⟩ = some fv ∧ W'.frozen? ⟨H + 2, 4, none⟩ = false ∧ W'.cell? ⟨H + 3, 0, none⟩ = some (.pointer (some ⟨H + 2, 0, none⟩)) := by
  have hm := blk h.sc x (fun hs => by have h2 : H + 4 ≤ H + 2 := h.ful.2 _ hs; omega)
  have hb := blk h.mb x (fun hs => by have h2 : H + 4 ≤ H + 3 := h.ful.2 _ hs; omega)
  exact ⟨cell_of_row _ _ 4 _ _ _ hm, by simp [World.frozen?, hm], cell_of_row _ _ 0 _ _ _ hb⟩
set_option maxRecDepth 100000 in
set_option maxHeartbeats 4000000 in
theorem takeSup_flat (X : Ex) (w : World) (n : Nat) (ts : List Ty) (H : Nat) (a : Option Addr) (c : Nat) (qs : List TyP) (cnt : Nat) (f : List UInt8 → Option Int) (sv : Value) (k : Nat) (av fv : Value) (W : World) (h : TkS X w n ts H a c qs cnt f sv k k av fv W) (hk : k < n) (hn : n ≤ 1024) (hfl : ∀ p ∈ qs, p.1.sup = ⟨#[]⟩) :
    Calls Tryz.prog 88 #[.pointer (some ⟨H + 3, 0, none⟩), .int .i64 k] W fun e W' => ∃ av', e = .returned (.int .i64 0) ∧ TkS X w n ts H a c qs cnt f sv (k + 1) k av' fv W' ∧ Only (fun b => H + 2 ≤ b) W W' := by
  have hmix : Tryz.prog.follows Departure.mixedOrders = true := by kernel_rfl
  have hkq : k < qs.length := by rw [h.len]; exact hk
  obtain ⟨g, cs, rfl, hcs, ck⟩ := h.supAt k hk
  have e0 := cell_of_row _ _ 0 _ _ _ h.mb
  have e1 := cell_of_row _ _ 1 _ _ _ h.mb
  have s0 := cell_of_row _ _ 0 _ _ _ h.sc
  have s5 := cell_of_row _ _ 5 _ _ _ h.sc
  simp only [List.getElem?_toArray, List.getElem?_cons_zero, List.getElem?_cons_succ] at e0 e1 s0 s5
  obtain ⟨gt, rfl, _, _, _⟩ := row_some h.row (by omega)
  have hcap := TySl_len h.row
  have t2 := nine_cells h.row k 2 hkq (.string ⟨#[]⟩) (by rw [← hfl qs[k] (List.getElem_mem _)]; rfl)
  have hki : (k : Int) < (n : Int) := by omega
  have hh : Hid _ := h
  clear h
  go_enter Tryz.func88, Tryz.ntmps88
  go_wp2
  refine wp_loop_rounds 1 ?_
  rw [rounds_succ]
  go_wp2
  have e0A : ∀ ob : Obj, (W.alloc ob).cell? ⟨H + 3, 0, none⟩ = some (.pointer (some ⟨H + 2, 0, none⟩)) := fun ob => ((Ext.refl W).alloc ob).cell e0
  have s5A : ∀ ob : Obj, (W.alloc ob).cell? ⟨H + 2, 5, none⟩ = some av := fun ob => ((Ext.refl W).alloc ob).cell s5
  go_region_law_o ((refine step_push (by rfl) _ _ 132 131 (.slice none 0 0) 1 24 infoSI Tryz.underlying132 rfl (by rfl) W (by first | exact ((Ext.refl W).alloc _).drew | exact ((Ext.refl W).drew).alloc _) (own av) av k (List.replicate k (.slice none 0 0)) (Row.min hh.out.abv) (by rfl) W.heap.size 1 (by rfl) [.slice none 0 0] (by first | exact heap_alloc_new W _ | exact heap_alloc_new W.drew _) (by rfl) (by intro u hu; simp only [List.mem_singleton] at hu; subst hu; rfl) (by unfold maxLen; omega) (by omega) ?_; intro g5 cap5 w5 r5 o5; obtain ⟨q1, f1, q2⟩ := tk_cell5 hh.out o5))
  all_goals go_wp2
  all_goals go_ret
  all_goals
    refine ⟨_, rfl, TkS.pushAbove hh.out r5 o5, ?_⟩
    exact (o5.mono (fun g _ hg => by have h2 : H + 4 ≤ g := hh.out.abv.2 g hg; omega)).then ((only_set _ _ _ _).mono (fun g _ hg => by omega))
end Go.Proofs.YtfiijlmpfpmgiaaGreatDoor
