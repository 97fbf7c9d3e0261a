/-
  The packet's reader: a kid (written by gen/mkry.py).
-/
import Derived.Test.YtmcodhdphdckkaaGreatDoorRx
namespace Go.Proofs.YtmcodhdphdckkaaGreatDoor
open Go.RowKit Go.Shelf

/-- a kid was read -/
def kidF (w w' : World) (X R : Nat) (v : Value) (l : List UInt8) (x : Ix) (r : PR) (e : Ending) : Prop := ∃ f : F9, e = .returned (.agg f.arr) ∧ FKeep (news w w') w' f r.a r.k ∧ RY w' X R v l r.p (x.to r.nx) ∧ r.p ≤ 65536
set_option maxRecDepth 100000 in
set_option maxHeartbeats 8000000 in
theorem kid_any (fu : Nat) (hK : PathSpec fu) (w : World) (X R : Nat) (v : Value) (l : List UInt8) (p : Nat) (x : Ix) (h : RY w X R v l p x) (hp : p ≤ 65536) (hbig : x.t.til - x.t.fro ≤ 1048576) (hap : ∀ a n c, v = .slice (some a) n c → a.block ≠ R) :
    Calls Tryz.prog 128 #[.pointer (some ⟨X, 0, none⟩), .int .i64 (64 - fu : Nat)] w fun e w' => Only (fun g => g = X ∨ g = R) w w' ∧ Outc (kidR (pathR l fu) x p) (kidF w w' X R v l x) e := by
  have hmix : Tryz.prog.follows Departure.mixedOrders = true := by kernel_rfl
  have z0 := fl_new w
  have x0 := (Ext.refl w).alloc (.cells #[.int .i8 0, .slice none 0 0, .string ⟨#[]⟩, .string ⟨#[]⟩, .string ⟨#[]⟩, .slice none 0 0, .string ⟨#[]⟩, .string ⟨#[]⟩, .bool false] 28)
  have hsz0 : Hid ((w.alloc (.cells #[.int .i8 0, .slice none 0 0, .string ⟨#[]⟩, .string ⟨#[]⟩, .string ⟨#[]⟩, .slice none 0 0, .string ⟨#[]⟩, .string ⟨#[]⟩, .bool false] 28)).heap.size = w.heap.size + 1) := World.size_alloc _ _
  obtain ⟨ab, hab⟩ : ∃ ab : Nat, Hid (ab = 64 - fu) := ⟨_, rfl⟩
  have hPth := fun W (r : RdB W R v p) (s : Sl W v l) => hK W R v l p x.next x.t.til r s h.rx.ln (fun _ => hap) hp (fun _ h2 h3 => by obtain ⟨k1, k2, k3, k4⟩ := h.ok; omega)
  rw [← hab.out] at hPth ⊢
  go_enter Tryz.func128, Tryz.ntmps128
  go_upto_region 1 with fail
  generalize World.alloc w _ = w1 at z0 x0 hsz0 ⊢
  have h1 := h.ext x0
  have hN := need_any w1 X R l x h1.rx.ix
  go_wp2_with fail
  go_at_call 148
  refine hN.mono ?_
  rintro _ _ ⟨⟨m, rfl⟩, ho⟩
  cases hn : needR x with
  | error q =>
    have ho := ho.err hn
    subst ho
    exact ⟨rfl, (x0.drewN m).only, outc_err (by unfold kidR; rw [hn]; rfl) rfl⟩
  | ok u =>
  have ho := ho.ok hn
  unfold unitE at ho
  subst ho
  have h2 := h1.ext ((Ext.refl w1).drewN m)
  have z2 := z0.ext ((Ext.refl w1).drewN m)
  have y2 := x0.drewN m
  have hsz2 : Hid ((w1.drewN m).heap.size = w.heap.size + 1) := hsz0.out
  clear hN h1 z0 x0 hsz0
  generalize w1.drewN m = w2 at h2 z2 y2 hsz2 ⊢
  have hXl := IxA.lt h.rx.ix
  have hRl := h.rx.rd.lt
  have hR : Hid (kidR (pathR l fu) x p = pathR l fu x.next x.t.til p) := by show _ = _; unfold kidR; rw [hn]; rfl
  obtain ⟨c0, c1, c2, c3, c4, c5, c6, c7, c8, fz⟩ := (IxA.cells h2.rx.ix)
  clear c0 c1 c2 c3 c6 c7 hn
  go_upto_region 2 with fail
  refine wp_region_last (fun w' => w'.cell? ⟨X, 5, none⟩ = some (.pointer (some ⟨R, 0, none⟩)) ∧ w'.cell? ⟨X, 8, none⟩ = some (.int .i64 x.next) ∧ w'.cell? ⟨X, 4, none⟩ = some (.int .i64 x.t.til)) 22 hmix ?_
  change wpAnyT _ _ _ _ _ _ 23 _ _ w2.drew
  have hSw : w2.drew.cell? ⟨X, 5, none⟩ = some (.pointer (some ⟨R, 0, none⟩)) ∧ w2.drew.cell? ⟨X, 8, none⟩ = some (.int .i64 x.next) ∧ w2.drew.cell? ⟨X, 4, none⟩ = some (.int .i64 x.t.til) := ⟨c5, c8, c4⟩
  have y3 := (Ext.refl w2).drew
  clear c4 c5 c8 fz
  have hsz3 : Hid (w2.drew.heap.size = w.heap.size + 1) := hsz2.out
  have z3 := z2.ext y3
  have h3 := h2.ext y3
  have yw := y2.trans y3
  clear y3 h2 z2 y2 hsz2
  generalize w2.drew = w3 at hSw hsz3 z3 h3 yw ⊢
  refine wpAnyT_take (i := 0) (v := ?_) rfl (by kernel_rfl) (by kernel_rfl) (by kernel_rfl) (by kernel_rfl) (fun _ _ _ h => h) (Or.inl ⟨by rfl, ?hy0⟩) hSw ?_
  case hy0 => (intro w' hSw'; obtain ⟨k0, k1, k2⟩ := hSw'; go_simp; try with_reducible rfl)
  dsimp only [Act.put, List.getElem_toArray, List.getElem_cons_zero, List.getElem_cons_succ]
  simp only [List.setIfInBounds_toArray, List.set_cons_zero, List.set_cons_succ]
  refine wpAnyT_take (i := 1) (v := ?_) rfl (by kernel_rfl) (by kernel_rfl) (by kernel_rfl) (by kernel_rfl) (fun _ _ _ h => h) (Or.inl ⟨by rfl, ?hy1⟩) hSw ?_
  case hy1 => (intro w' hSw'; obtain ⟨k0, k1, k2⟩ := hSw'; go_simp; try with_reducible rfl)
  dsimp only [Act.put, List.getElem_toArray, List.getElem_cons_zero, List.getElem_cons_succ]
  simp only [List.setIfInBounds_toArray, List.set_cons_zero, List.set_cons_succ]
  refine wpAnyT_take (i := 2) (v := ?_) rfl (by kernel_rfl) (by kernel_rfl) (by kernel_rfl) (by kernel_rfl) (fun _ _ _ h => h) (Or.inl ⟨by rfl, ?hy2⟩) hSw ?_
  case hy2 => (intro w' hSw'; obtain ⟨k0, k1, k2⟩ := hSw'; go_simp; try with_reducible rfl)
  dsimp only [Act.put, List.getElem_toArray, List.getElem_cons_zero, List.getElem_cons_succ]
  simp only [List.setIfInBounds_toArray, List.set_cons_zero, List.set_cons_succ]
  refine wpAnyT_take (i := 3) (v := ?_) rfl (by kernel_rfl) (by kernel_rfl) (by kernel_rfl) (by kernel_rfl) (fun _ _ _ h => h) (Or.inl ⟨by rfl, ?hy3⟩) hSw ?_
  case hy3 => (intro w' hSw'; obtain ⟨k0, k1, k2⟩ := hSw'; go_simp; try with_reducible rfl)
  dsimp only [Act.put, List.getElem_toArray, List.getElem_cons_zero, List.getElem_cons_succ]
  simp only [List.setIfInBounds_toArray, List.set_cons_zero, List.set_cons_succ]
  refine wpAnyT_take (i := 4) (v := ?_) rfl (by kernel_rfl) (by kernel_rfl) (by kernel_rfl) (by kernel_rfl) (fun _ _ _ h => h) (Or.inl ⟨by rfl, ?hy4⟩) hSw ?_
  case hy4 => (intro w' hSw'; obtain ⟨k0, k1, k2⟩ := hSw'; go_simp; try with_reducible rfl)
  dsimp only [Act.put, List.getElem_toArray, List.getElem_cons_zero, List.getElem_cons_succ]
  simp only [List.setIfInBounds_toArray, List.set_cons_zero, List.set_cons_succ]
  refine wpAnyT_take (i := 5) (v := ?_) rfl (by kernel_rfl) (by kernel_rfl) (by kernel_rfl) (by kernel_rfl) (fun _ _ _ h => h) (Or.inl ⟨by rfl, ?hy5⟩) hSw ?_
  case hy5 => (intro w' hSw'; obtain ⟨k0, k1, k2⟩ := hSw'; go_simp; try with_reducible rfl)
  dsimp only [Act.put, List.getElem_toArray, List.getElem_cons_zero, List.getElem_cons_succ]
  simp only [List.setIfInBounds_toArray, List.set_cons_zero, List.set_cons_succ]
  refine wpAnyT_take (i := 6) (v := ?_) rfl (by kernel_rfl) (by kernel_rfl) (by kernel_rfl) (by kernel_rfl) (fun _ _ _ h => h) (Or.inl ⟨by rfl, ?hy6⟩) hSw ?_
  case hy6 => (intro w' hSw'; obtain ⟨k0, k1, k2⟩ := hSw'; go_simp; try with_reducible rfl)
  dsimp only [Act.put, List.getElem_toArray, List.getElem_cons_zero, List.getElem_cons_succ]
  simp only [List.setIfInBounds_toArray, List.set_cons_zero, List.set_cons_succ]
  refine wpAnyT_take (i := 7) (v := ?_) rfl (by kernel_rfl) (by kernel_rfl) (by kernel_rfl) (by kernel_rfl) (fun _ _ _ h => h) (Or.inl ⟨by rfl, ?hy7⟩) hSw ?_
  case hy7 => (intro w' hSw'; obtain ⟨k0, k1, k2⟩ := hSw'; go_simp; try with_reducible rfl)
  dsimp only [Act.put, List.getElem_toArray, List.getElem_cons_zero, List.getElem_cons_succ]
  simp only [List.setIfInBounds_toArray, List.set_cons_zero, List.set_cons_succ]
  refine wpAnyT_take (i := 8) (v := ?_) rfl (by kernel_rfl) (by kernel_rfl) (by kernel_rfl) (by kernel_rfl) (fun _ _ _ h => h) (Or.inl ⟨by rfl, ?hy8⟩) hSw ?_
  case hy8 => (intro w' hSw'; obtain ⟨k0, k1, k2⟩ := hSw'; go_simp; try with_reducible rfl)
  dsimp only [Act.put, List.getElem_toArray, List.getElem_cons_zero, List.getElem_cons_succ]
  simp only [List.setIfInBounds_toArray, List.set_cons_zero, List.set_cons_succ]
  refine wpAnyT_take (i := 9) (v := ?_) rfl (by kernel_rfl) (by kernel_rfl) (by kernel_rfl) (by kernel_rfl) (fun _ _ _ h => h) (Or.inl ⟨by rfl, ?hy9⟩) hSw ?_
  case hy9 => (intro w' hSw'; obtain ⟨k0, k1, k2⟩ := hSw'; go_simp; try with_reducible rfl)
  dsimp only [Act.put, List.getElem_toArray, List.getElem_cons_zero, List.getElem_cons_succ]
  simp only [List.setIfInBounds_toArray, List.set_cons_zero, List.set_cons_succ]
  refine wpAnyT_take (i := 10) (v := ?_) rfl (by kernel_rfl) (by kernel_rfl) (by kernel_rfl) (by kernel_rfl) (fun _ _ _ h => h) (Or.inl ⟨by rfl, ?hy10⟩) hSw ?_
  case hy10 => (intro w' hSw'; obtain ⟨k0, k1, k2⟩ := hSw'; go_simp; try with_reducible rfl)
  dsimp only [Act.put, List.getElem_toArray, List.getElem_cons_zero, List.getElem_cons_succ]
  simp only [List.setIfInBounds_toArray, List.set_cons_zero, List.set_cons_succ]
  refine wpAnyT_take (i := 11) (v := ?_) rfl (by kernel_rfl) (by kernel_rfl) (by kernel_rfl) (by kernel_rfl) (fun _ _ _ h => h) (Or.inl ⟨by rfl, ?hy11⟩) hSw ?_
  case hy11 => (intro w' hSw'; obtain ⟨k0, k1, k2⟩ := hSw'; go_simp; try with_reducible rfl)
  dsimp only [Act.put, List.getElem_toArray, List.getElem_cons_zero, List.getElem_cons_succ]
  simp only [List.setIfInBounds_toArray, List.set_cons_zero, List.set_cons_succ]
  refine wpAnyT_take (i := 12) (v := ?_) rfl (by kernel_rfl) (by kernel_rfl) (by kernel_rfl) (by kernel_rfl) (fun _ _ _ h => h) (Or.inl ⟨by rfl, ?hy12⟩) hSw ?_
  case hy12 => (intro w' hSw'; obtain ⟨k0, k1, k2⟩ := hSw'; go_simp; try with_reducible rfl)
  dsimp only [Act.put, List.getElem_toArray, List.getElem_cons_zero, List.getElem_cons_succ]
  simp only [List.setIfInBounds_toArray, List.set_cons_zero, List.set_cons_succ]
  refine wpAnyT_take (i := 13) (v := ?_) rfl (by kernel_rfl) (by kernel_rfl) (by kernel_rfl) (by kernel_rfl) (fun _ _ _ h => h) (Or.inl ⟨by rfl, ?hy13⟩) hSw ?_
  case hy13 => (intro w' hSw'; obtain ⟨k0, k1, k2⟩ := hSw'; go_simp; try with_reducible rfl)
  dsimp only [Act.put, List.getElem_toArray, List.getElem_cons_zero, List.getElem_cons_succ]
  simp only [List.setIfInBounds_toArray, List.set_cons_zero, List.set_cons_succ]
  refine wpAnyT_take (i := 14) (v := ?_) rfl (by kernel_rfl) (by kernel_rfl) (by kernel_rfl) (by kernel_rfl) (fun _ _ _ h => h) (Or.inl ⟨by rfl, ?hy14⟩) hSw ?_
  case hy14 => (intro w' hSw'; obtain ⟨k0, k1, k2⟩ := hSw'; go_simp; try with_reducible rfl)
  dsimp only [Act.put, List.getElem_toArray, List.getElem_cons_zero, List.getElem_cons_succ]
  simp only [List.setIfInBounds_toArray, List.set_cons_zero, List.set_cons_succ]
  refine wpAnyT_one (i := 15) rfl (by kernel_rfl) ?_
  rw [if_pos (by rfl)]
  go_simp
  go_at_call 45
  refine (hPth w3 h3.rx.rd h3.rx.sl).mono ?_
  rintro _ w4 ⟨q4, ho⟩
  cases hpt : pathR l fu x.next x.t.til p with
  | error q =>
    have ho := ho.err hpt
    subst ho
    exact ⟨rfl, (yw.only.then q4).mono (fun _ _ hg => .inr hg), outc_err (by rw [hR.out, hpt]) rfl⟩
  | ok r =>
  obtain ⟨f, rfl, hfk, rd4, hp4⟩ := ho.ok hpt
  obtain ⟨kind, ka, kn, kc, desc, value, start, ma, mn, mc, fin, rule, dn⟩ := f
  simp only [F9.arr]
  have hXR := h.ne
  have hZR : w.heap.size ≠ R := by omega
  have i4 := IxA.only h3.rx.ix q4 hXR
  have z4 := z3.only q4 hZR
  obtain ⟨e0, e1, e2, e3, e4, e5, e6, e7, e8, ez⟩ := IxA.cells i4
  have hS4 : w4.cell? ⟨X, 5, none⟩ = some (.pointer (some ⟨R, 0, none⟩)) ∧ w4.cell? ⟨X, 8, none⟩ = some (.int .i64 x.next) ∧ w4.cell? ⟨X, 4, none⟩ = some (.int .i64 x.t.til) := ⟨e5, e8, e4⟩
  try dsimp only
  refine ⟨hS4, ?_⟩
  refine wpAnyT_take (i := 16) (v := ?_) rfl (by kernel_rfl) (by kernel_rfl) (by kernel_rfl) (by kernel_rfl) (fun _ _ _ h => h) (Or.inl ⟨by rfl, ?hy16⟩) hS4 ?_
  case hy16 => (intro w' hSw'; obtain ⟨k0, k1, k2⟩ := hSw'; go_simp; try with_reducible rfl)
  dsimp only [Act.put, List.getElem_toArray, List.getElem_cons_zero, List.getElem_cons_succ]
  simp only [List.setIfInBounds_toArray, List.set_cons_zero, List.set_cons_succ]
  refine wpAnyT_take (i := 17) (v := ?_) rfl (by kernel_rfl) (by kernel_rfl) (by kernel_rfl) (by kernel_rfl) (fun _ _ _ h => h) (Or.inl ⟨by rfl, ?hy17⟩) hS4 ?_
  case hy17 => (intro w' hSw'; obtain ⟨k0, k1, k2⟩ := hSw'; go_simp; try with_reducible rfl)
  dsimp only [Act.put, List.getElem_toArray, List.getElem_cons_zero, List.getElem_cons_succ]
  simp only [List.setIfInBounds_toArray, List.set_cons_zero, List.set_cons_succ]
  refine wpAnyT_take (i := 18) (v := ?_) rfl (by kernel_rfl) (by kernel_rfl) (by kernel_rfl) (by kernel_rfl) (fun _ _ _ h => h) (Or.inl ⟨by rfl, ?hy18⟩) hS4 ?_
  case hy18 => (intro w' hSw'; obtain ⟨k0, k1, k2⟩ := hSw'; go_simp; try with_reducible rfl)
  dsimp only [Act.put, List.getElem_toArray, List.getElem_cons_zero, List.getElem_cons_succ]
  simp only [List.setIfInBounds_toArray, List.set_cons_zero, List.set_cons_succ]
  have z5 := z4.put ⟨kind, ka, kn, kc, desc, value, start, ma, mn, mc, fin, rule, dn⟩
  have o5 := put_only w4 w.heap.size ⟨kind, ka, kn, kc, desc, value, start, ma, mn, mc, fin, rule, dn⟩
  have i5 := IxA.only i4 o5 (by omega)
  obtain ⟨g0, g1, g2, g3, g4, g5, g6, g7, g8, gz⟩ := IxA.cells i5
  have hS5 : (putF w4 w.heap.size ⟨kind, ka, kn, kc, desc, value, start, ma, mn, mc, fin, rule, dn⟩).cell? ⟨X, 5, none⟩ = some (.pointer (some ⟨R, 0, none⟩)) ∧ (putF w4 w.heap.size ⟨kind, ka, kn, kc, desc, value, start, ma, mn, mc, fin, rule, dn⟩).cell? ⟨X, 8, none⟩ = some (.int .i64 x.next) ∧ (putF w4 w.heap.size ⟨kind, ka, kn, kc, desc, value, start, ma, mn, mc, fin, rule, dn⟩).cell? ⟨X, 4, none⟩ = some (.int .i64 x.t.til) := ⟨g5, g8, g4⟩
  obtain ⟨d0, d1, d2, d3, d4, d5, d6, d7, d8, dz⟩ := z4.cells
  refine wpAnyT_one (i := 19) rfl (by kernel_rfl) ?_
  rw [if_pos (by rfl)]
  go_simp
  try refine ⟨hS5, ?_⟩
  refine wpAnyT_one (i := 20) rfl (by kernel_rfl) ?_
  rw [if_pos (by rfl)]
  go_simp
  try refine ⟨hS5, ?_⟩
  refine wpAnyT_one (i := 21) rfl (by kernel_rfl) ?_
  rw [if_pos (by rfl)]
  go_simp
  try refine ⟨hS5, ?_⟩
  obtain ⟨hS5a, hS5b, hS5c⟩ := hS5
  refine wpAnyT_one (i := 22) rfl (by kernel_rfl) ?_
  rw [if_pos (by rfl)]
  go_simp
  refine wpAnyT_done (by kernel_rfl) ?_
  have o6 := setOnly (((((((((w4.setCell ⟨w.heap.size, 0, none⟩ (.int .i8 kind)).setCell ⟨w.heap.size, 1, none⟩ (.slice ka kn kc)).setCell ⟨w.heap.size, 2, none⟩ (.string desc)).setCell ⟨w.heap.size, 3, none⟩ (.string value)).setCell ⟨w.heap.size, 4, none⟩ (.string start)).setCell ⟨w.heap.size, 5, none⟩ (.slice ma mn mc)).setCell ⟨w.heap.size, 6, none⟩ (.string fin)).setCell ⟨w.heap.size, 7, none⟩ (.string rule)).setCell ⟨w.heap.size, 8, none⟩ (.bool dn)) X 8 (.int .i64 (r.nx : Int))
  have i6 := i5.set r.nx
  have z6 := z5.only o6 (by omega)
  have rd5 := rd4.only o5 (by omega)
  have rd6 := rd5.only o6 (fun e => hXR e.symm)
  have oA : Only (fun g => g = X ∨ g = R) w w4 := (yw.only.then q4).mono (fun _ _ hg => .inr hg)
  have oB := (oA.trans (o5.mono fun g _ hg => .inr (by omega))).then (o6.mono fun _ _ hg => .inl hg)
  have hsl := h.slt
  have hs3 := h3.rx.sl
  obtain ⟨sa, sn, scap, rfl⟩ := hs3.lit
  have hs4 := hs3.onlyB q4 (fun a' e => by subst e; exact hap _ _ _ rfl)
  have hs5 := hs4.onlyB o5 (fun a' e => by subst e; have := hsl _ _ _ rfl; omega)
  have hs6 := hs5.onlyB o6 (fun a' e => by subst e; exact h.ap _ _ _ rfl)
  have hb4 : ∀ g, news w3 w4 g → w.heap.size < g := fun g hg => by have := hg.1; have := hsz3.out; omega
  have hfk6 := (hfk.next (fun g hg => o5.block g hg.2 (by have := hb4 g hg; omega))).next (fun g hg => o6.block g (Nat.lt_of_lt_of_le hg.2 o5.size) (by have := hb4 g hg; omega))
  have hsz6 : w4.heap.size ≤ ((((((((((w4.setCell ⟨w.heap.size, 0, none⟩ (.int .i8 kind)).setCell ⟨w.heap.size, 1, none⟩ (.slice ka kn kc)).setCell ⟨w.heap.size, 2, none⟩ (.string desc)).setCell ⟨w.heap.size, 3, none⟩ (.string value)).setCell ⟨w.heap.size, 4, none⟩ (.string start)).setCell ⟨w.heap.size, 5, none⟩ (.slice ma mn mc)).setCell ⟨w.heap.size, 6, none⟩ (.string fin)).setCell ⟨w.heap.size, 7, none⟩ (.string rule)).setCell ⟨w.heap.size, 8, none⟩ (.bool dn)).setCell ⟨X, 8, none⟩ (.int .i64 (r.nx : Int))).heap.size := Nat.le_trans o5.size o6.size
  have hfk7 := hfk6
  obtain ⟨W6, hW6⟩ : ∃ W6, W6 = ((((((((((w4.setCell ⟨w.heap.size, 0, none⟩ (.int .i8 kind)).setCell ⟨w.heap.size, 1, none⟩ (.slice ka kn kc)).setCell ⟨w.heap.size, 2, none⟩ (.string desc)).setCell ⟨w.heap.size, 3, none⟩ (.string value)).setCell ⟨w.heap.size, 4, none⟩ (.string start)).setCell ⟨w.heap.size, 5, none⟩ (.slice ma mn mc)).setCell ⟨w.heap.size, 6, none⟩ (.string fin)).setCell ⟨w.heap.size, 7, none⟩ (.string rule)).setCell ⟨w.heap.size, 8, none⟩ (.bool dn)).setCell ⟨X, 8, none⟩ (.int .i64 (r.nx : Int))) := ⟨_, rfl⟩
  have i7 : IxA W6 X R x.t (bAt l x.at_) x.at_ r.nx := by rw [hW6]; exact i6
  have z7 : FlT W6 w.heap.size ⟨kind, ka, kn, kc, desc, value, start, ma, mn, mc, fin, rule, dn⟩ := by rw [hW6]; exact z6
  have rd7 : RdB W6 R (.slice sa sn scap) r.p := by rw [hW6]; exact rd6
  have o7 : Only (fun g => g = X ∨ g = R) w W6 := by rw [hW6]; exact oB
  have s7 : Sl W6 (.slice sa sn scap) l := by rw [hW6]; exact hs6
  have fk7 : FKeep (news w3 w4) W6 ⟨kind, ka, kn, kc, desc, value, start, ma, mn, mc, fin, rule, dn⟩ r.a r.k := by rw [hW6]; exact hfk7
  have hsz7 : w4.heap.size ≤ W6.heap.size := by rw [hW6]; exact hsz6
  rw [← hW6]
  have hto := pathR_ok hpt
  have hxo := h.ok
  have ry7 : RY W6 X R (.slice sa sn scap) l r.p (x.to r.nx) := ⟨⟨rd7, s7, h.rx.ln, i7⟩, ⟨hxo.1, by show x.t.fro ≤ r.nx; have := hxo.2.1; omega, by show r.nx ≤ x.t.til; omega, hxo.2.2.2⟩, h.ne, h.ap⟩
  have hR2 : Hid (kidR (pathR l fu) x p = .ok r) := by show _ = _; rw [hR.out, hpt]
  clear hW6 i6 z6 rd5 rd6 oA oB hs3 hs4 hs5 hs6 hfk hfk6 hfk7 hsz6 i5 z5 o5 o6 i4 z4 rd4 q4 hS4 hSw hS5a hS5b hS5c hPth e0 e1 e2 e3 e4 e5 e6 e7 e8 ez d0 d1 d2 d3 d4 d5 d6 d7 d8 dz g0 g1 g2 g3 g4 g5 g6 g7 g8 gz hsz3 z3 h3 yw ho hR hpt
  obtain ⟨d0, d1, d2, d3, d4, d5, d6, d7, d8, dz⟩ := z7.cells
  simp only at d0 d1 d2 d3 d4 d5 d6 d7 d8
  have f10 := z7.put ⟨kind, ka, kn, kc, desc, value, start, ma, mn, mc, fin, rule, dn⟩
  have o10 := put_only W6 w.heap.size ⟨kind, ka, kn, kc, desc, value, start, ma, mn, mc, fin, rule, dn⟩
  have hend : ∀ W : World, FlT W w.heap.size ⟨kind, ka, kn, kc, desc, value, start, ma, mn, mc, fin, rule, dn⟩ → Only (fun g => g = X ∨ g = R) w W → FKeep (news w W) W ⟨kind, ka, kn, kc, desc, value, start, ma, mn, mc, fin, rule, dn⟩ r.a r.k → RY W X R (.slice sa sn scap) l r.p (x.to r.nx) → ∀ tm : Array Value, tm.getD 4 undef = .pointer (some ⟨w.heap.size, 0, none⟩) → bodyPost Tryz.prog Tryz.f128 (fun e w' => Only (fun g => g = X ∨ g = R) w w' ∧ Outc (kidR (pathR l fu) x p) (kidF w w' X R (.slice sa sn scap) l x) e) Exit.ret { tmps := tm, defers := [] } W := by
    intro W h1 h2 h3 h4 tm htm
    refine bodyPost_ret (results_f rfl _ _ w.heap.size _ rfl htm h1) rfl ?_
    exact ⟨h2, outc_ok hR2.out ⟨_, rfl, h3, h4, hp4⟩⟩
  have hZX : X ≠ w.heap.size := by omega
  have fk8 := (fk7.next (fun g hg => o10.block g (Nat.lt_of_lt_of_le hg.2 hsz7) (by have := hb4 g hg; omega))).wide (B' := news w (putF W6 w.heap.size ⟨kind, ka, kn, kc, desc, value, start, ma, mn, mc, fin, rule, dn⟩)) (fun g hg => ⟨by have := hb4 g hg; omega, Nat.lt_of_lt_of_le hg.2 (Nat.le_trans hsz7 o10.size)⟩)
  have ry8 := ry7.only o10 hZX (by omega) (fun a n c ev => by have := hsl a n c ev; omega)
  have hendh := hend _ f10 (o7.trans (o10.mono fun g _ hg => .inr (by omega))) fk8 ry8
  clear hend f10 o10 fk8 ry8 fk7 ry7 i7 rd7 s7 o7 hsz7 hb4
  go_wp2
  exact hendh _ rfl
end Go.Proofs.YtmcodhdphdckkaaGreatDoor
