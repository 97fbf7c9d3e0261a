/-
  The packet's reader, plain: a filter's item, its kids, and what a call on them answers.
-/
import Derived.Test.YtdcfiphffbgocaaGreatDoorQM
namespace Go.Proofs.YtdcfiphffbgocaaGreatDoor
open Go.RowKit Go.Shelf

/-- a filter that was read: itself, its kids, the place behind it, how many parts so far -/
structure PR where
  a : OwnF
  k : FT
  nx : Nat
  p : Nat
def toFT : List (OwnF × FT) → FT
  | [] => .nil
  | (a, k) :: r => .cons a k (toFT r)
theorem toFT_len (l : List (OwnF × FT)) : (toFT l).len = l.length := by
  induction l with
  | nil => rfl
  | cons a l ih => obtain ⟨a, k⟩ := a; simp [toFT, FT.len, ih]
abbrev KF := Int → Int → Nat → Rs PR
/-- kids, as long as something is left -/
def kidsA (K : KF) : Nat → Ix → Nat → List (OwnF × FT) → Rs (List (OwnF × FT) × Nat)
  | 0, _, p, acc => .ok (acc, p)
  | g + 1, x, p, acc => if x.left then bindR (K x.next x.t.til p) fun r => kidsA K g (x.to r.nx) r.p (acc ++ [(r.a, r.k)]) else .ok (acc, p)
def kidR (K : KF) (x : Ix) (p : Nat) : Rs PR := bindR (needR x) fun _ => K x.next x.t.til p
def kidsR (K : KF) (x : Ix) (p : Nat) : Rs (List (OwnF × FT) × Nat) := bindR (kidR K x p) fun r => kidsA K (x.t.til + 1) (x.to r.nx) r.p [(r.a, r.k)]
def onlyR (K : KF) (l : List UInt8) (x : Ix) (p : Nat) : Rs (List (OwnF × FT) × Nat) := bindR (kidR K x p) fun r => bindR (endR l (x.to r.nx)) fun _ => .ok ([(r.a, r.k)], r.p)
def filterR (K : KF) (l : List UInt8) (x : Ix) (p : Nat) : Rs (OwnF × FT × Nat) :=
  if bAt l x.at_ = 160 then bindR (kidsR K x p) fun r => .ok (ownK 0, toFT r.1, r.2)
  else if bAt l x.at_ = 161 then bindR (kidsR K x p) fun r => .ok (ownK 1, toFT r.1, r.2)
  else if bAt l x.at_ = 162 then bindR (onlyR K l x p) fun r => .ok (ownK 2, toFT r.1, r.2)
  else if bAt l x.at_ = 163 then bindR (againstR l x 3) fun a => .ok (a, .nil, p)
  else if bAt l x.at_ = 165 then bindR (againstR l x 5) fun a => .ok (a, .nil, p)
  else if bAt l x.at_ = 166 then bindR (againstR l x 6) fun a => .ok (a, .nil, p)
  else if bAt l x.at_ = 168 then bindR (againstR l x 8) fun a => .ok (a, .nil, p)
  else if bAt l x.at_ = 135 then bindR (textR l x) fun d => bindR (checkedR { ownK 7 with desc := str d } .nil x.at_) fun a => .ok (a, .nil, p)
  else if bAt l x.at_ = 164 then bindR (partR l x) fun b => bindR (checkedR b .nil x.at_) fun a => .ok (a, .nil, p)
  else if bAt l x.at_ = 169 then bindR (ruleR l x) fun b => bindR (checkedR b .nil x.at_) fun a => .ok (a, .nil, p)
  else .error (20, x.at_)
def upP (l : List UInt8) (x : Ix) (p : Nat) : Nat := if bAt l x.at_ = 162 then p else p + 1
def pathR (l : List UInt8) : Nat → KF
  | 0 => fun a e _ => bindR (itemR l a e) fun _ => .error (91, a)
  | f + 1 => fun a e p => bindR (itemR l a e) fun x => if 65536 < upP l x p then .error (3, a) else bindR (filterR (pathR l f) l x (upP l x p)) fun r => .ok ⟨r.1, r.2.1, x.t.til, r.2.2⟩
theorem pathR_ok {l : List UInt8} {f : Nat} {a e : Int} {p : Nat} {r : PR} (h : pathR l f a e p = .ok r) : a + 2 ≤ (r.nx : Int) ∧ (r.nx : Int) ≤ e := by
  cases f with
  | zero =>
    simp only [pathR] at h
    cases hi : itemR l a e with
    | error q => rw [hi] at h; simp [bindR] at h
    | ok x => rw [hi] at h; simp [bindR] at h
  | succ f =>
    simp only [pathR] at h
    cases hi : itemR l a e with
    | error q => rw [hi] at h; simp [bindR] at h
    | ok x =>
      obtain ⟨⟨k1, k2, k3, k4⟩, h2, h3, h4, h5, h6⟩ := itemR_ok hi
      rw [hi] at h
      simp only [bindR] at h
      split at h
      · cases h
      · split at h
        · simp only [Except.ok.injEq] at h
          subst h
          simp only
          omega
        · cases h
/-- what a path's call leaves -/
def pathF (w w' : World) (R : Nat) (v : Value) (r : PR) (x : Ending) : Prop := ∃ f : F9, x = .returned (.tuple #[.agg f.arr, .int .i64 r.nx]) ∧ FKeep (news w w') w' f r.a r.k ∧ RdB w' R v r.p ∧ r.p ≤ 65536
/-- what reader.part does, so many parts may still stand in one another -/
def PathSpec (f : Nat) : Prop := ∀ (w : World) (R : Nat) (v : Value) (l : List UInt8) (p : Nat) (a e : Int), RdB w R v p → Sl w v l → l.length < 36028797018963968 → (0 < l.length → ∀ a n c, v = .slice (some a) n c → a.block ≠ R) → p ≤ 65536 → (0 ≤ a → a ≤ e → e ≤ l.length → e - a ≤ 1048576) →
  Calls Tryz.prog 36 #[.pointer (some ⟨R, 0, none⟩), .int .i64 a, .int .i64 e, .int .i64 (64 - f : Nat)] w fun x w' => Only (fun g => g = R) w w' ∧ Outc (pathR l f a e p) (pathF w w' R v) x
end Go.Proofs.YtdcfiphffbgocaaGreatDoor

/-
  The packet's reader: a kid (written by gen/mkry.py).
-/
namespace Go.Proofs.YtdcfiphffbgocaaGreatDoor
open Go.RowKit Go.Shelf

/-- a kid was read -/
def kidF (w w' : World) (X R : Nat) (v : Value) (l : List UInt8) (x : Ix) (r : PR) (e : Ending) : Prop := ∃ f : F9, e = .returned (.agg f.arr) ∧ FKeep (news w w') w' f r.a r.k ∧ RY w' X R v l r.p (x.to r.nx) ∧ r.p ≤ 65536
set_option maxRecDepth 100000 in
set_option maxHeartbeats 8000000 in
theorem kid_any (fu : Nat) (hK : PathSpec fu) (w : World) (X R : Nat) (v : Value) (l : List UInt8) (p : Nat) (x : Ix) (h : RY w X R v l p x) (hp : p ≤ 65536) (hbig : x.t.til - x.t.fro ≤ 1048576) (hap : ∀ a n c, v = .slice (some a) n c → a.block ≠ R) :
    Calls Tryz.prog 118 #[.pointer (some ⟨X, 0, none⟩), .int .i64 (64 - fu : Nat)] w fun e w' => Only (fun g => g = X ∨ g = R) w w' ∧ Outc (kidR (pathR l fu) x p) (kidF w w' X R v l x) e := by
  have hmix : Tryz.prog.follows Departure.mixedOrders = true := by kernel_rfl
  have z0 := fl_new w
  have x0 := (Ext.refl w).alloc (.cells #[.int .i8 0, .slice none 0 0, .string ⟨#[]⟩, .string ⟨#[]⟩, .string ⟨#[]⟩, .slice none 0 0, .string ⟨#[]⟩, .string ⟨#[]⟩, .bool false] 27)
  have hsz0 : Hid ((w.alloc (.cells #[.int .i8 0, .slice none 0 0, .string ⟨#[]⟩, .string ⟨#[]⟩, .string ⟨#[]⟩, .slice none 0 0, .string ⟨#[]⟩, .string ⟨#[]⟩, .bool false] 27)).heap.size = w.heap.size + 1) := World.size_alloc _ _
  obtain ⟨ab, hab⟩ : ∃ ab : Nat, Hid (ab = 64 - fu) := ⟨_, rfl⟩
  have hPth := fun W (r : RdB W R v p) (s : Sl W v l) => hK W R v l p x.next x.t.til r s h.rx.ln (fun _ => hap) hp (fun _ h2 h3 => by obtain ⟨k1, k2, k3, k4⟩ := h.ok; omega)
  rw [← hab.out] at hPth ⊢
  go_enter Tryz.func118, Tryz.ntmps118
  go_upto_region 1 with fail
  generalize World.alloc w _ = w1 at z0 x0 hsz0 ⊢
  have h1 := h.ext x0
  have hN := need_any w1 X R l x h1.rx.ix
  go_wp2_with fail
  go_at_call 139
  refine hN.mono ?_
  rintro _ _ ⟨⟨m, rfl⟩, ho⟩
  cases hn : needR x with
  | error q =>
    have ho := ho.err hn
    subst ho
    exact ⟨rfl, (x0.drewN m).only, outc_err (by unfold kidR; rw [hn]; rfl) rfl⟩
  | ok u =>
  have ho := ho.ok hn
  unfold unitE at ho
  subst ho
  have h2 := h1.ext ((Ext.refl w1).drewN m)
  have z2 := z0.ext ((Ext.refl w1).drewN m)
  have y2 := x0.drewN m
  have hsz2 : Hid ((w1.drewN m).heap.size = w.heap.size + 1) := hsz0.out
  clear hN h1 z0 x0 hsz0
  generalize w1.drewN m = w2 at h2 z2 y2 hsz2 ⊢
  have hXl := IxA.lt h.rx.ix
  have hRl := h.rx.rd.lt
  have hR : Hid (kidR (pathR l fu) x p = pathR l fu x.next x.t.til p) := by show _ = _; unfold kidR; rw [hn]; rfl
  obtain ⟨c0, c1, c2, c3, c4, c5, c6, c7, c8, fz⟩ := (IxA.cells h2.rx.ix)
  clear c0 c1 c2 c3 c6 c7 hn
  go_upto_region 2 with fail
  refine wp_region_last (fun w' => w'.cell? ⟨X, 5, none⟩ = some (.pointer (some ⟨R, 0, none⟩)) ∧ w'.cell? ⟨X, 8, none⟩ = some (.int .i64 x.next) ∧ w'.cell? ⟨X, 4, none⟩ = some (.int .i64 x.t.til)) 22 hmix ?_
  change wpAnyT _ _ _ _ _ _ 23 _ _ w2.drew
  have hSw : w2.drew.cell? ⟨X, 5, none⟩ = some (.pointer (some ⟨R, 0, none⟩)) ∧ w2.drew.cell? ⟨X, 8, none⟩ = some (.int .i64 x.next) ∧ w2.drew.cell? ⟨X, 4, none⟩ = some (.int .i64 x.t.til) := ⟨c5, c8, c4⟩
  have y3 := (Ext.refl w2).drew
  clear c4 c5 c8 fz
  have hsz3 : Hid (w2.drew.heap.size = w.heap.size + 1) := hsz2.out
  have z3 := z2.ext y3
  have h3 := h2.ext y3
  have yw := y2.trans y3
  clear y3 h2 z2 y2 hsz2
  generalize w2.drew = w3 at hSw hsz3 z3 h3 yw ⊢
  refine wpAnyT_take (i := 0) (v := ?_) rfl (by kernel_rfl) (by kernel_rfl) (by kernel_rfl) (by kernel_rfl) (fun _ _ _ h => h) (Or.inl ⟨by rfl, ?hy0⟩) hSw ?_
  case hy0 => (intro w' hSw'; obtain ⟨k0, k1, k2⟩ := hSw'; go_simp; try with_reducible rfl)
  dsimp only [Act.put, List.getElem_toArray, List.getElem_cons_zero, List.getElem_cons_succ]
  simp only [List.setIfInBounds_toArray, List.set_cons_zero, List.set_cons_succ]
  refine wpAnyT_take (i := 1) (v := ?_) rfl (by kernel_rfl) (by kernel_rfl) (by kernel_rfl) (by kernel_rfl) (fun _ _ _ h => h) (Or.inl ⟨by rfl, ?hy1⟩) hSw ?_
  case hy1 => (intro w' hSw'; obtain ⟨k0, k1, k2⟩ := hSw'; go_simp; try with_reducible rfl)
  dsimp only [Act.put, List.getElem_toArray, List.getElem_cons_zero, List.getElem_cons_succ]
  simp only [List.setIfInBounds_toArray, List.set_cons_zero, List.set_cons_succ]
  refine wpAnyT_take (i := 2) (v := ?_) rfl (by kernel_rfl) (by kernel_rfl) (by kernel_rfl) (by kernel_rfl) (fun _ _ _ h => h) (Or.inl ⟨by rfl, ?hy2⟩) hSw ?_
  case hy2 => (intro w' hSw'; obtain ⟨k0, k1, k2⟩ := hSw'; go_simp; try with_reducible rfl)
  dsimp only [Act.put, List.getElem_toArray, List.getElem_cons_zero, List.getElem_cons_succ]
  simp only [List.setIfInBounds_toArray, List.set_cons_zero, List.set_cons_succ]
  refine wpAnyT_take (i := 3) (v := ?_) rfl (by kernel_rfl) (by kernel_rfl) (by kernel_rfl) (by kernel_rfl) (fun _ _ _ h => h) (Or.inl ⟨by rfl, ?hy3⟩) hSw ?_
  case hy3 => (intro w' hSw'; obtain ⟨k0, k1, k2⟩ := hSw'; go_simp; try with_reducible rfl)
  dsimp only [Act.put, List.getElem_toArray, List.getElem_cons_zero, List.getElem_cons_succ]
  simp only [List.setIfInBounds_toArray, List.set_cons_zero, List.set_cons_succ]
  refine wpAnyT_take (i := 4) (v := ?_) rfl (by kernel_rfl) (by kernel_rfl) (by kernel_rfl) (by kernel_rfl) (fun _ _ _ h => h) (Or.inl ⟨by rfl, ?hy4⟩) hSw ?_
  case hy4 => (intro w' hSw'; obtain ⟨k0, k1, k2⟩ := hSw'; go_simp; try with_reducible rfl)
  dsimp only [Act.put, List.getElem_toArray, List.getElem_cons_zero, List.getElem_cons_succ]
  simp only [List.setIfInBounds_toArray, List.set_cons_zero, List.set_cons_succ]
  refine wpAnyT_take (i := 5) (v := ?_) rfl (by kernel_rfl) (by kernel_rfl) (by kernel_rfl) (by kernel_rfl) (fun _ _ _ h => h) (Or.inl ⟨by rfl, ?hy5⟩) hSw ?_
  case hy5 => (intro w' hSw'; obtain ⟨k0, k1, k2⟩ := hSw'; go_simp; try with_reducible rfl)
  dsimp only [Act.put, List.getElem_toArray, List.getElem_cons_zero, List.getElem_cons_succ]
  simp only [List.setIfInBounds_toArray, List.set_cons_zero, List.set_cons_succ]
  refine wpAnyT_take (i := 6) (v := ?_) rfl (by kernel_rfl) (by kernel_rfl) (by kernel_rfl) (by kernel_rfl) (fun _ _ _ h => h) (Or.inl ⟨by rfl, ?hy6⟩) hSw ?_
  case hy6 => (intro w' hSw'; obtain ⟨k0, k1, k2⟩ := hSw'; go_simp; try with_reducible rfl)
  dsimp only [Act.put, List.getElem_toArray, List.getElem_cons_zero, List.getElem_cons_succ]
  simp only [List.setIfInBounds_toArray, List.set_cons_zero, List.set_cons_succ]
  refine wpAnyT_take (i := 7) (v := ?_) rfl (by kernel_rfl) (by kernel_rfl) (by kernel_rfl) (by kernel_rfl) (fun _ _ _ h => h) (Or.inl ⟨by rfl, ?hy7⟩) hSw ?_
  case hy7 => (intro w' hSw'; obtain ⟨k0, k1, k2⟩ := hSw'; go_simp; try with_reducible rfl)
  dsimp only [Act.put, List.getElem_toArray, List.getElem_cons_zero, List.getElem_cons_succ]
  simp only [List.setIfInBounds_toArray, List.set_cons_zero, List.set_cons_succ]
  refine wpAnyT_take (i := 8) (v := ?_) rfl (by kernel_rfl) (by kernel_rfl) (by kernel_rfl) (by kernel_rfl) (fun _ _ _ h => h) (Or.inl ⟨by rfl, ?hy8⟩) hSw ?_
  case hy8 => (intro w' hSw'; obtain ⟨k0, k1, k2⟩ := hSw'; go_simp; try with_reducible rfl)
  dsimp only [Act.put, List.getElem_toArray, List.getElem_cons_zero, List.getElem_cons_succ]
  simp only [List.setIfInBounds_toArray, List.set_cons_zero, List.set_cons_succ]
  refine wpAnyT_take (i := 9) (v := ?_) rfl (by kernel_rfl) (by kernel_rfl) (by kernel_rfl) (by kernel_rfl) (fun _ _ _ h => h) (Or.inl ⟨by rfl, ?hy9⟩) hSw ?_
  case hy9 => (intro w' hSw'; obtain ⟨k0, k1, k2⟩ := hSw'; go_simp; try with_reducible rfl)
  dsimp only [Act.put, List.getElem_toArray, List.getElem_cons_zero, List.getElem_cons_succ]
  simp only [List.setIfInBounds_toArray, List.set_cons_zero, List.set_cons_succ]
  refine wpAnyT_take (i := 10) (v := ?_) rfl (by kernel_rfl) (by kernel_rfl) (by kernel_rfl) (by kernel_rfl) (fun _ _ _ h => h) (Or.inl ⟨by rfl, ?hy10⟩) hSw ?_
  case hy10 => (intro w' hSw'; obtain ⟨k0, k1, k2⟩ := hSw'; go_simp; try with_reducible rfl)
  dsimp only [Act.put, List.getElem_toArray, List.getElem_cons_zero, List.getElem_cons_succ]
  simp only [List.setIfInBounds_toArray, List.set_cons_zero, List.set_cons_succ]
  refine wpAnyT_take (i := 11) (v := ?_) rfl (by kernel_rfl) (by kernel_rfl) (by kernel_rfl) (by kernel_rfl) (fun _ _ _ h => h) (Or.inl ⟨by rfl, ?hy11⟩) hSw ?_
  case hy11 => (intro w' hSw'; obtain ⟨k0, k1, k2⟩ := hSw'; go_simp; try with_reducible rfl)
  dsimp only [Act.put, List.getElem_toArray, List.getElem_cons_zero, List.getElem_cons_succ]
  simp only [List.setIfInBounds_toArray, List.set_cons_zero, List.set_cons_succ]
  refine wpAnyT_take (i := 12) (v := ?_) rfl (by kernel_rfl) (by kernel_rfl) (by kernel_rfl) (by kernel_rfl) (fun _ _ _ h => h) (Or.inl ⟨by rfl, ?hy12⟩) hSw ?_
  case hy12 => (intro w' hSw'; obtain ⟨k0, k1, k2⟩ := hSw'; go_simp; try with_reducible rfl)
  dsimp only [Act.put, List.getElem_toArray, List.getElem_cons_zero, List.getElem_cons_succ]
  simp only [List.setIfInBounds_toArray, List.set_cons_zero, List.set_cons_succ]
  refine wpAnyT_take (i := 13) (v := ?_) rfl (by kernel_rfl) (by kernel_rfl) (by kernel_rfl) (by kernel_rfl) (fun _ _ _ h => h) (Or.inl ⟨by rfl, ?hy13⟩) hSw ?_
  case hy13 => (intro w' hSw'; obtain ⟨k0, k1, k2⟩ := hSw'; go_simp; try with_reducible rfl)
  dsimp only [Act.put, List.getElem_toArray, List.getElem_cons_zero, List.getElem_cons_succ]
  simp only [List.setIfInBounds_toArray, List.set_cons_zero, List.set_cons_succ]
  refine wpAnyT_take (i := 14) (v := ?_) rfl (by kernel_rfl) (by kernel_rfl) (by kernel_rfl) (by kernel_rfl) (fun _ _ _ h => h) (Or.inl ⟨by rfl, ?hy14⟩) hSw ?_
  case hy14 => (intro w' hSw'; obtain ⟨k0, k1, k2⟩ := hSw'; go_simp; try with_reducible rfl)
  dsimp only [Act.put, List.getElem_toArray, List.getElem_cons_zero, List.getElem_cons_succ]
  simp only [List.setIfInBounds_toArray, List.set_cons_zero, List.set_cons_succ]
  refine wpAnyT_one (i := 15) rfl (by kernel_rfl) ?_
  rw [if_pos (by rfl)]
  go_simp
  go_at_call 36
  refine (hPth w3 h3.rx.rd h3.rx.sl).mono ?_
  rintro _ w4 ⟨q4, ho⟩
  cases hpt : pathR l fu x.next x.t.til p with
  | error q =>
    have ho := ho.err hpt
    subst ho
    exact ⟨rfl, (yw.only.then q4).mono (fun _ _ hg => .inr hg), outc_err (by rw [hR.out, hpt]) rfl⟩
  | ok r =>
  obtain ⟨f, rfl, hfk, rd4, hp4⟩ := ho.ok hpt
  obtain ⟨kind, ka, kn, kc, desc, value, start, ma, mn, mc, fin, rule, dn⟩ := f
  simp only [F9.arr]
  have hXR := h.ne
  have hZR : w.heap.size ≠ R := by omega
  have i4 := IxA.only h3.rx.ix q4 hXR
  have z4 := z3.only q4 hZR
  obtain ⟨e0, e1, e2, e3, e4, e5, e6, e7, e8, ez⟩ := IxA.cells i4
  have hS4 : w4.cell? ⟨X, 5, none⟩ = some (.pointer (some ⟨R, 0, none⟩)) ∧ w4.cell? ⟨X, 8, none⟩ = some (.int .i64 x.next) ∧ w4.cell? ⟨X, 4, none⟩ = some (.int .i64 x.t.til) := ⟨e5, e8, e4⟩
  try dsimp only
  refine ⟨hS4, ?_⟩
  refine wpAnyT_take (i := 16) (v := ?_) rfl (by kernel_rfl) (by kernel_rfl) (by kernel_rfl) (by kernel_rfl) (fun _ _ _ h => h) (Or.inl ⟨by rfl, ?hy16⟩) hS4 ?_
  case hy16 => (intro w' hSw'; obtain ⟨k0, k1, k2⟩ := hSw'; go_simp; try with_reducible rfl)
  dsimp only [Act.put, List.getElem_toArray, List.getElem_cons_zero, List.getElem_cons_succ]
  simp only [List.setIfInBounds_toArray, List.set_cons_zero, List.set_cons_succ]
  refine wpAnyT_take (i := 17) (v := ?_) rfl (by kernel_rfl) (by kernel_rfl) (by kernel_rfl) (by kernel_rfl) (fun _ _ _ h => h) (Or.inl ⟨by rfl, ?hy17⟩) hS4 ?_
  case hy17 => (intro w' hSw'; obtain ⟨k0, k1, k2⟩ := hSw'; go_simp; try with_reducible rfl)
  dsimp only [Act.put, List.getElem_toArray, List.getElem_cons_zero, List.getElem_cons_succ]
  simp only [List.setIfInBounds_toArray, List.set_cons_zero, List.set_cons_succ]
  refine wpAnyT_take (i := 18) (v := ?_) rfl (by kernel_rfl) (by kernel_rfl) (by kernel_rfl) (by kernel_rfl) (fun _ _ _ h => h) (Or.inl ⟨by rfl, ?hy18⟩) hS4 ?_
  case hy18 => (intro w' hSw'; obtain ⟨k0, k1, k2⟩ := hSw'; go_simp; try with_reducible rfl)
  dsimp only [Act.put, List.getElem_toArray, List.getElem_cons_zero, List.getElem_cons_succ]
  simp only [List.setIfInBounds_toArray, List.set_cons_zero, List.set_cons_succ]
  have z5 := z4.put ⟨kind, ka, kn, kc, desc, value, start, ma, mn, mc, fin, rule, dn⟩
  have o5 := put_only w4 w.heap.size ⟨kind, ka, kn, kc, desc, value, start, ma, mn, mc, fin, rule, dn⟩
  have i5 := IxA.only i4 o5 (by omega)
  obtain ⟨g0, g1, g2, g3, g4, g5, g6, g7, g8, gz⟩ := IxA.cells i5
  have hS5 : (putF w4 w.heap.size ⟨kind, ka, kn, kc, desc, value, start, ma, mn, mc, fin, rule, dn⟩).cell? ⟨X, 5, none⟩ = some (.pointer (some ⟨R, 0, none⟩)) ∧ (putF w4 w.heap.size ⟨kind, ka, kn, kc, desc, value, start, ma, mn, mc, fin, rule, dn⟩).cell? ⟨X, 8, none⟩ = some (.int .i64 x.next) ∧ (putF w4 w.heap.size ⟨kind, ka, kn, kc, desc, value, start, ma, mn, mc, fin, rule, dn⟩).cell? ⟨X, 4, none⟩ = some (.int .i64 x.t.til) := ⟨g5, g8, g4⟩
  obtain ⟨d0, d1, d2, d3, d4, d5, d6, d7, d8, dz⟩ := z4.cells
  refine wpAnyT_one (i := 19) rfl (by kernel_rfl) ?_
  rw [if_pos (by rfl)]
  go_simp
  try refine ⟨hS5, ?_⟩
  refine wpAnyT_one (i := 20) rfl (by kernel_rfl) ?_
  rw [if_pos (by rfl)]
  go_simp
  try refine ⟨hS5, ?_⟩
  refine wpAnyT_one (i := 21) rfl (by kernel_rfl) ?_
  rw [if_pos (by rfl)]
  go_simp
  try refine ⟨hS5, ?_⟩
  obtain ⟨hS5a, hS5b, hS5c⟩ := hS5
  refine wpAnyT_one (i := 22) rfl (by kernel_rfl) ?_
  rw [if_pos (by rfl)]
  go_simp
  refine wpAnyT_done (by kernel_rfl) ?_
  have o6 := setOnly (((((((((w4.setCell ⟨w.heap.size, 0, none⟩ (.int .i8 kind)).setCell ⟨w.heap.size, 1, none⟩ (.slice ka kn kc)).setCell ⟨w.heap.size, 2, none⟩ (.string desc)).setCell ⟨w.heap.size, 3, none⟩ (.string value)).setCell ⟨w.heap.size, 4, none⟩ (.string start)).setCell ⟨w.heap.size, 5, none⟩ (.slice ma mn mc)).setCell ⟨w.heap.size, 6, none⟩ (.string fin)).setCell ⟨w.heap.size, 7, none⟩ (.string rule)).setCell ⟨w.heap.size, 8, none⟩ (.bool dn)) X 8 (.int .i64 (r.nx : Int))
  have i6 := i5.set r.nx
  have z6 := z5.only o6 (by omega)
  have rd5 := rd4.only o5 (by omega)
  have rd6 := rd5.only o6 (fun e => hXR e.symm)
  have oA : Only (fun g => g = X ∨ g = R) w w4 := (yw.only.then q4).mono (fun _ _ hg => .inr hg)
  have oB := (oA.trans (o5.mono fun g _ hg => .inr (by omega))).then (o6.mono fun _ _ hg => .inl hg)
  have hsl := h.slt
  have hs3 := h3.rx.sl
  obtain ⟨sa, sn, scap, rfl⟩ := hs3.lit
  have hs4 := hs3.onlyB q4 (fun a' e => by subst e; exact hap _ _ _ rfl)
  have hs5 := hs4.onlyB o5 (fun a' e => by subst e; have := hsl _ _ _ rfl; omega)
  have hs6 := hs5.onlyB o6 (fun a' e => by subst e; exact h.ap _ _ _ rfl)
  have hb4 : ∀ g, news w3 w4 g → w.heap.size < g := fun g hg => by have := hg.1; have := hsz3.out; omega
  have hfk6 := (hfk.next (fun g hg => o5.block g hg.2 (by have := hb4 g hg; omega))).next (fun g hg => o6.block g (Nat.lt_of_lt_of_le hg.2 o5.size) (by have := hb4 g hg; omega))
  have hsz6 : w4.heap.size ≤ ((((((((((w4.setCell ⟨w.heap.size, 0, none⟩ (.int .i8 kind)).setCell ⟨w.heap.size, 1, none⟩ (.slice ka kn kc)).setCell ⟨w.heap.size, 2, none⟩ (.string desc)).setCell ⟨w.heap.size, 3, none⟩ (.string value)).setCell ⟨w.heap.size, 4, none⟩ (.string start)).setCell ⟨w.heap.size, 5, none⟩ (.slice ma mn mc)).setCell ⟨w.heap.size, 6, none⟩ (.string fin)).setCell ⟨w.heap.size, 7, none⟩ (.string rule)).setCell ⟨w.heap.size, 8, none⟩ (.bool dn)).setCell ⟨X, 8, none⟩ (.int .i64 (r.nx : Int))).heap.size := Nat.le_trans o5.size o6.size
  have hfk7 := hfk6
  obtain ⟨W6, hW6⟩ : ∃ W6, W6 = ((((((((((w4.setCell ⟨w.heap.size, 0, none⟩ (.int .i8 kind)).setCell ⟨w.heap.size, 1, none⟩ (.slice ka kn kc)).setCell ⟨w.heap.size, 2, none⟩ (.string desc)).setCell ⟨w.heap.size, 3, none⟩ (.string value)).setCell ⟨w.heap.size, 4, none⟩ (.string start)).setCell ⟨w.heap.size, 5, none⟩ (.slice ma mn mc)).setCell ⟨w.heap.size, 6, none⟩ (.string fin)).setCell ⟨w.heap.size, 7, none⟩ (.string rule)).setCell ⟨w.heap.size, 8, none⟩ (.bool dn)).setCell ⟨X, 8, none⟩ (.int .i64 (r.nx : Int))) := ⟨_, rfl⟩
  have i7 : IxA W6 X R x.t (bAt l x.at_) x.at_ r.nx := by rw [hW6]; exact i6
  have z7 : FlT W6 w.heap.size ⟨kind, ka, kn, kc, desc, value, start, ma, mn, mc, fin, rule, dn⟩ := by rw [hW6]; exact z6
  have rd7 : RdB W6 R (.slice sa sn scap) r.p := by rw [hW6]; exact rd6
  have o7 : Only (fun g => g = X ∨ g = R) w W6 := by rw [hW6]; exact oB
  have s7 : Sl W6 (.slice sa sn scap) l := by rw [hW6]; exact hs6
  have fk7 : FKeep (news w3 w4) W6 ⟨kind, ka, kn, kc, desc, value, start, ma, mn, mc, fin, rule, dn⟩ r.a r.k := by rw [hW6]; exact hfk7
  have hsz7 : w4.heap.size ≤ W6.heap.size := by rw [hW6]; exact hsz6
  rw [← hW6]
  have hto := pathR_ok hpt
  have hxo := h.ok
  have ry7 : RY W6 X R (.slice sa sn scap) l r.p (x.to r.nx) := ⟨⟨rd7, s7, h.rx.ln, i7⟩, ⟨hxo.1, by show x.t.fro ≤ r.nx; have := hxo.2.1; omega, by show r.nx ≤ x.t.til; omega, hxo.2.2.2⟩, h.ne, h.ap⟩
  have hR2 : Hid (kidR (pathR l fu) x p = .ok r) := by show _ = _; rw [hR.out, hpt]
  clear hW6 i6 z6 rd5 rd6 oA oB hs3 hs4 hs5 hs6 hfk hfk6 hfk7 hsz6 i5 z5 o5 o6 i4 z4 rd4 q4 hS4 hSw hS5a hS5b hS5c hPth e0 e1 e2 e3 e4 e5 e6 e7 e8 ez d0 d1 d2 d3 d4 d5 d6 d7 d8 dz g0 g1 g2 g3 g4 g5 g6 g7 g8 gz hsz3 z3 h3 yw ho hR hpt
  obtain ⟨d0, d1, d2, d3, d4, d5, d6, d7, d8, dz⟩ := z7.cells
  simp only at d0 d1 d2 d3 d4 d5 d6 d7 d8
  have f10 := z7.put ⟨kind, ka, kn, kc, desc, value, start, ma, mn, mc, fin, rule, dn⟩
  have o10 := put_only W6 w.heap.size ⟨kind, ka, kn, kc, desc, value, start, ma, mn, mc, fin, rule, dn⟩
  have hend : ∀ W : World, FlT W w.heap.size ⟨kind, ka, kn, kc, desc, value, start, ma, mn, mc, fin, rule, dn⟩ → Only (fun g => g = X ∨ g = R) w W → FKeep (news w W) W ⟨kind, ka, kn, kc, desc, value, start, ma, mn, mc, fin, rule, dn⟩ r.a r.k → RY W X R (.slice sa sn scap) l r.p (x.to r.nx) → ∀ tm : Array Value, tm.getD 4 undef = .pointer (some ⟨w.heap.size, 0, none⟩) → bodyPost Tryz.prog Tryz.f118 (fun e w' => Only (fun g => g = X ∨ g = R) w w' ∧ Outc (kidR (pathR l fu) x p) (kidF w w' X R (.slice sa sn scap) l x) e) Exit.ret { tmps := tm, defers := [] } W := by
    intro W h1 h2 h3 h4 tm htm
    refine bodyPost_ret (results_f rfl _ _ w.heap.size _ rfl htm h1) rfl ?_
    exact ⟨h2, outc_ok hR2.out ⟨_, rfl, h3, h4, hp4⟩⟩
  have hZX : X ≠ w.heap.size := by omega
  have fk8 := (fk7.next (fun g hg => o10.block g (Nat.lt_of_lt_of_le hg.2 hsz7) (by have := hb4 g hg; omega))).wide (B' := news w (putF W6 w.heap.size ⟨kind, ka, kn, kc, desc, value, start, ma, mn, mc, fin, rule, dn⟩)) (fun g hg => ⟨by have := hb4 g hg; omega, Nat.lt_of_lt_of_le hg.2 (Nat.le_trans hsz7 o10.size)⟩)
  have ry8 := ry7.only o10 hZX (by omega) (fun a n c ev => by have := hsl a n c ev; omega)
  have hendh := hend _ f10 (o7.trans (o10.mono fun g _ hg => .inr (by omega))) fk8 ry8
  clear hend f10 o10 fk8 ry8 fk7 ry7 i7 rd7 s7 o7 hsz7 hb4
  go_wp2
  exact hendh _ rfl
end Go.Proofs.YtdcfiphffbgocaaGreatDoor

/-
  The packet's reader: rows of filters that grow.
-/
namespace Go.Proofs.YtdcfiphffbgocaaGreatDoor
open Go.RowKit Go.Shelf

/-- the cells of filters -/
def flatF (fs : List F9) : List Value := fs.flatMap (fun f => f.arr.toList)
theorem flatF_len (fs : List F9) : (flatF fs).length = fs.length * 9 := by
  induction fs with
  | nil => rfl
  | cons f fs ih => simp only [flatF, List.flatMap_cons, List.length_append, List.length_cons] at ih ⊢; rw [ih]; simp [F9.arr]; omega
/-- a row of filters -/
def RowF (w : World) (S : Nat → Prop) (v : Value) (fs : List F9) : Prop := Row w S 27 9 v fs.length (flatF fs)
theorem infoF : (Tryz.prog.info? 27).map (fun i => (i.zero, i.size, i.bytes)) = some (some (.agg #[.int .i8 0, .slice none 0 0, .string ⟨#[]⟩, .string ⟨#[]⟩, .string ⟨#[]⟩, .slice none 0 0, .string ⟨#[]⟩, .string ⟨#[]⟩, .bool false]), 9, 144) := by kernel_rfl
theorem rowF_one {w : World} {g : Nat} (f : F9) (hg : w.heap[g]? = some (.cells f.arr 27 (0, 0))) : RowF w (fun k => k = g) (.slice (some ⟨g, 0, none⟩) 1 1) [f] := by
  refine ⟨⟨by simp [flatF, F9.arr], .inr ⟨g, 1, f.arr, rfl, Nat.zero_le _, hg, Nat.le_refl _, by decide, by simp [F9.arr], by simp [flatF, F9.arr]⟩⟩, fun k hk => ?_⟩
  simp only [Value.ownBlock, Option.some.injEq] at hk
  exact hk.symm
/-- one filter is appended -/
theorem wpList_flt {ops : Array Oper} {rest : List Oper} {o : Oper} {a : Act} {Q : Exit → Act → World → Prop} (hgd : o.guard = none) (s x : Operand)
    (ho : o.op = .call { callee := .builtin .append, args := #[s, x], argTypes := #[24, 24] })
    (w0 : World) (S : Nat → Prop) (v : Value) (fs : List F9) (f : F9) (cs : Array Value) (hcs : cs = f.arr) (hrow : RowF w0 S v fs) (hs : a.eval s = v) (H : Nat)
    (hx : a.eval x = .slice (some ⟨H, 0, none⟩) 1 1) (hH : w0.heap.size = H) (hlen : fs.length ≤ 1099511627)
    (h : ∀ g cap w', RowF w' (Up S w0.heap.size) (.slice (some ⟨g, 0, none⟩) (fs.length + 1) cap) (fs ++ [f]) → Only S w0 w' → wpList Tryz.prog ops Q rest (a.put o.dst (.slice (some ⟨g, 0, none⟩) (fs.length + 1) cap)) w') :
    wpList Tryz.prog ops Q (o :: rest) a (w0.alloc (.cells cs 27)) := by
  subst hcs
  refine wpList_rowpush hgd s x 24 27 _ 9 144 infoF Tryz.underlying24 rfl (by decide) ho w0 S v fs.length (flatF fs) _ hrow hs 1 1 H hx hH (by simp [F9.arr]) (by simp [F9.arr, Value.oneCell']) (by decide) (by unfold maxLen; omega) (by omega) ?_
  intro g cap w' h1 h2
  refine h g cap w' ?_ h2
  have e1 : flatF (fs ++ [f]) = flatF fs ++ f.arr.toList := by simp [flatF]
  have e2 : (fs ++ [f]).length = fs.length + 1 := by simp
  unfold RowF
  rw [e1, e2]
  exact h1
/-- the filters of a row stand, in every world that is alike in the blocks of B -/
def KeepL (B : Nat → Prop) (w : World) : List F9 → List (OwnF × FT) → Prop
  | [], [] => True
  | f :: fs, (a, k) :: r => FKeep B w f a k ∧ KeepL B w fs r
  | _, _ => False
theorem KeepL.len {B : Nat → Prop} {w : World} : ∀ {fs : List F9} {r : List (OwnF × FT)}, KeepL B w fs r → fs.length = r.length
  | [], [], _ => rfl
  | _ :: _, (_, _) :: _, h => by simp [KeepL.len h.2]
  | [], _ :: _, h => h.elim
  | _ :: _, [], h => h.elim
theorem KeepL.next {B : Nat → Prop} {w w' : World} (hw : ∀ g, B g → w'.heap[g]? = w.heap[g]?) : ∀ {fs : List F9} {r : List (OwnF × FT)}, KeepL B w fs r → KeepL B w' fs r
  | [], [], _ => trivial
  | _ :: _, (_, _) :: _, h => ⟨h.1.next hw, KeepL.next hw h.2⟩
  | [], _ :: _, h => h.elim
  | _ :: _, [], h => h.elim
theorem KeepL.wide {B B' : Nat → Prop} {w : World} (hB : ∀ g, B g → B' g) : ∀ {fs : List F9} {r : List (OwnF × FT)}, KeepL B w fs r → KeepL B' w fs r
  | [], [], _ => trivial
  | _ :: _, (_, _) :: _, h => ⟨h.1.wide hB, KeepL.wide hB h.2⟩
  | [], _ :: _, h => h.elim
  | _ :: _, [], h => h.elim
theorem KeepL.snoc {B : Nat → Prop} {w : World} {f : F9} {a : OwnF} {k : FT} (hf : FKeep B w f a k) : ∀ {fs : List F9} {r : List (OwnF × FT)}, KeepL B w fs r → KeepL B w (fs ++ [f]) (r ++ [(a, k)])
  | [], [], _ => ⟨hf, trivial⟩
  | _ :: _, (_, _) :: _, h => ⟨h.1, KeepL.snoc hf h.2⟩
  | [], _ :: _, h => h.elim
  | _ :: _, [], h => h.elim
theorem flatF_cell : ∀ (fs : List F9) (i j : Nat) (hi : i < fs.length) (hj : j < fs[i].arr.size), (flatF fs)[i * 9 + j]? = some (fs[i].arr[j])
  | f :: fs, 0, j, _, hj => by
    have hl : f.arr.toList.length = 9 := by simp [F9.arr]
    have hj9 : j < 9 := by have := hj; simp [F9.arr] at this; exact this
    simp only [flatF, List.flatMap_cons, Nat.zero_mul, Nat.zero_add, List.getElem_cons_zero]
    rw [List.getElem?_append_left (by omega), Array.getElem?_toList, Array.getElem?_eq_getElem]
  | f :: fs, i + 1, j, hi, hj => by
    have hl : f.arr.toList.length = 9 := by simp [F9.arr]
    have ih := flatF_cell fs i j (by simpa using hi) (by simpa using hj)
    simp only [flatF, List.flatMap_cons, List.getElem_cons_succ] at ih ⊢
    rw [List.getElem?_append_right (by omega), hl, show (i + 1) * 9 + j - 9 = i * 9 + j by omega]
    exact ih
/-- cells and filters make a forest -/
theorem forest {B : Nat → Prop} {w : World} {g : Nat} : ∀ (fs : List F9) (r : List (OwnF × FT)) (o : Nat), KeepL B w fs r → (∀ i (hi : i < fs.length) j (hj : j < fs[i].arr.size), w.cell? ⟨g, o + (i * 9 + j), none⟩ = some (fs[i].arr[j])) → FtCells w (toFT r) g o
  | [], [], _, _, _ => trivial
  | f :: fs, (a, k) :: r, o, h, hc => by
    obtain ⟨h1, h2⟩ := h.1.self
    refine ⟨⟨f, h1, fun j hj => ?_, h2.1, h2.2.1, h2.2.2.1, h2.2.2.2⟩, forest fs r (o + 9) h.2 (fun i hi j hj => ?_)⟩
    · have := hc 0 (by simp) j hj
      simpa using this
    · have := hc (i + 1) (by simpa using hi) j (by simpa using hj)
      rw [show o + 9 + (i * 9 + j) = o + ((i + 1) * 9 + j) by omega]
      simpa using this
  | [], _ :: _, _, h, _ => h.elim
  | _ :: _, [], _, h, _ => h.elim
/-- a row of filters whose kids stand is a list of kids -/
theorem RowF.kids {B S : Nat → Prop} {w : World} {a : Option Addr} {n c : Nat} {fs : List F9} {r : List (OwnF × FT)} (h : RowF w S (.slice a n c) fs) (hk : KeepL B w fs r) : n = r.length ∧ n ≤ c ∧ c ≤ maxLen ∧ ((toFT r).len = 0 ∨ ∃ g' o', a = some ⟨g', o', none⟩ ∧ FtCells w (toFT r) g' o') := by
  have hl := hk.len
  rcases h.1.2 with ⟨e, hn⟩ | ⟨g, cap, cur, e, hb, hg, h1, h2, h3, h4⟩
  · simp only [Value.slice.injEq] at e
    obtain ⟨rfl, rfl, rfl⟩ := e
    refine ⟨by omega, Nat.le_refl _, Nat.zero_le _, .inl (by rw [toFT_len]; omega)⟩
  · simp only [Value.slice.injEq] at e
    obtain ⟨rfl, rfl, rfl⟩ := e
    refine ⟨hl, h1, h2, .inr ⟨g, 0, rfl, forest fs r 0 hk (fun i hi j hj => ?_)⟩⟩
    have hc := World.ownsRow.cells h.1 (g := g) rfl (i * 9 + j) _ (flatF_cell fs i j hi hj)
    rw [Addr.add_lit] at hc
    exact hc
end Go.Proofs.YtdcfiphffbgocaaGreatDoor

/-
  The packet's reader: kids, and the only kid.
-/
namespace Go.Proofs.YtdcfiphffbgocaaGreatDoor
open Go.RowKit Go.Shelf

/-- a slice of kids stands in every world that is alike in the blocks of B -/
def KeepK (B : Nat → Prop) (w : World) (a : Option Addr) (n c : Nat) (r : List (OwnF × FT)) : Prop := ∀ w' : World, (∀ g, B g → w'.heap[g]? = w.heap[g]?) → n = r.length ∧ n ≤ c ∧ c ≤ maxLen ∧ ((toFT r).len = 0 ∨ ∃ g' o', a = some ⟨g', o', none⟩ ∧ FtCells w' (toFT r) g' o')
/-- kids that were read -/
def kidsF (w w' : World) (X R : Nat) (v : Value) (l : List UInt8) (x : Ix) (r : List (OwnF × FT) × Nat) (e : Ending) : Prop := ∃ a n c, e = .returned (.slice a n c) ∧ KeepK (news w w') w' a n c r.1 ∧ RdB w' R v r.2 ∧ r.2 ≤ 65536 ∧ ∃ n, IxAt w' X R l (x.to n)
/-- what stands while kids are read -/
structure KdS (w wr : World) (X R : Nat) (v : Value) (l : List UInt8) (p : Nat) (x : Ix) (n : Nat) (u : Value) (acc : List (OwnF × FT)) : Prop where
  ry : RY wr X R v l p (x.to n)
  on : Only (fun g => g = X ∨ g = R) w wr
  pp : p ≤ 65536
  ln : acc.length + x.t.fro ≤ n
  row : ∃ (fs : List F9) (B : Nat → Prop), RowF wr (own u) u fs ∧ KeepL B wr fs acc ∧ (∀ g, own u g → w.heap.size ≤ g) ∧ (∀ g, B g → w.heap.size ≤ g ∧ g < wr.heap.size ∧ ¬ own u g)
section
variable {w wr w' : World} {X R : Nat} {v : Value} {l : List UInt8} {p : Nat} {x : Ix} {n : Nat} {u : Value} {acc : List (OwnF × FT)}
theorem KdS.ext (h : KdS w wr X R v l p x n u acc) (y : Ext wr w') : KdS w w' X R v l p x n u acc := by
  obtain ⟨fs, B, h1, h2, h3, h4⟩ := h.row
  exact ⟨h.ry.ext y, h.on.ext y, h.pp, h.ln, fs, B, Row.ext h1 y, h2.next (fun g hg => y.block g (h4 g hg).2.1), h3, fun g hg => ⟨(h4 g hg).1, Nat.lt_of_lt_of_le (h4 g hg).2.1 y.size, (h4 g hg).2.2⟩⟩
theorem KdS.lit (h : KdS w wr X R v l p x n u acc) : ∃ a m c, u = .slice a m c := by
  obtain ⟨fs, B, h1, _⟩ := h.row
  rcases h1.1.2 with ⟨e, hl⟩ | ⟨g', cap, cur, e, _⟩
  · exact ⟨none, 0, 0, e⟩
  · exact ⟨_, _, _, e⟩
theorem KdS.keep {a : Option Addr} {m c : Nat} (h : KdS w wr X R v l p x n (.slice a m c) acc) : KeepK (news w wr) wr a m c acc := by
  obtain ⟨fs, B, h1, h2, h3, h4⟩ := h.row
  intro w' hw
  have hrl := fun g hg => Row.lt h1 (k := g) hg
  exact RowF.kids (Row.alike h1 (fun g hg => hw g ⟨h3 g hg, hrl g hg⟩)) (h2.next (fun g hg => hw g ⟨(h4 g hg).1, (h4 g hg).2.1⟩))
/-- the next kid was read -/
theorem KdS.kid {f : F9} {r : PR} (h : KdS w wr X R v l p x n u acc) (o : Only (fun g => g = X ∨ g = R) wr w') (hf : FKeep (news wr w') w' f r.a r.k) (ry : RY w' X R v l r.p (x.to r.nx)) (hp : r.p ≤ 65536) (hx : X < w.heap.size) (hr : R < w.heap.size) (hn : n + 2 ≤ r.nx) :
    ∃ (fs : List F9) (B : Nat → Prop), fs.length = acc.length ∧ RowF w' (own u) u fs ∧ KeepL B w' (fs ++ [f]) (acc ++ [(r.a, r.k)]) ∧ (∀ g, own u g → w.heap.size ≤ g) ∧ (∀ g, B g → w.heap.size ≤ g ∧ g < w'.heap.size ∧ ¬ own u g) ∧ RY w' X R v l r.p (x.to r.nx) ∧ Only (fun g => g = X ∨ g = R) w w' ∧ r.p ≤ 65536 ∧ acc.length + 1 + x.t.fro ≤ r.nx := by
  obtain ⟨fs, B, h1, h2, h3, h4⟩ := h.row
  have hrl := fun g hg => Row.lt h1 (k := g) hg
  have hno : ∀ g, w.heap.size ≤ g → ¬ (g = X ∨ g = R) := fun g hg => by omega
  have hsz := h.on.size
  have k1 := h2.next (w' := w') (fun g hg => o.block g (h4 g hg).2.1 (hno g (h4 g hg).1))
  refine ⟨fs, fun g => B g ∨ news wr w' g, h2.len, Row.kept h1 o (fun g hg => hno g (h3 g hg)), KeepL.snoc (hf.wide (fun g hg => .inr hg)) (k1.wide (fun g hg => .inl hg)), h3, ?_, ry, h.on.then o, hp, by have := h.ln; omega⟩
  rintro g (hg | hg)
  · exact ⟨(h4 g hg).1, Nat.lt_of_lt_of_le (h4 g hg).2.1 o.size, (h4 g hg).2.2⟩
  · exact ⟨by have := hg.1; omega, hg.2, fun hu => by have := hrl g hu; have := hg.1; omega⟩
end
/-- the row has grown -/
theorem kd_push {w w5 w6 : World} {X R : Nat} {v : Value} {l : List UInt8} {p : Nat} {x : Ix} {n g cap : Nat} {u : Value} {acc : List (OwnF × FT)} {fs : List F9} {B : Nat → Prop} {f : F9} {ak : OwnF × FT}
    (r6 : RowF w6 (Up (own u) w5.heap.size) (.slice (some ⟨g, 0, none⟩) (fs.length + 1) cap) (fs ++ [f])) (o6 : Only (own u) w5 w6) (hk : KeepL B w5 (fs ++ [f]) (acc ++ [ak])) (h3 : ∀ g, own u g → w.heap.size ≤ g) (h4 : ∀ g, B g → w.heap.size ≤ g ∧ g < w5.heap.size ∧ ¬ own u g)
    (ry : RY w5 X R v l p (x.to n)) (on : Only (fun g => g = X ∨ g = R) w w5) (hp : p ≤ 65536) (hln : acc.length + 1 + x.t.fro ≤ n) (hx : X < w.heap.size) (hr : R < w.heap.size) (hs : ∀ a n c, v = .slice (some a) n c → a.block < w.heap.size) :
    KdS w w6 X R v l p x n (.slice (some ⟨g, 0, none⟩) (fs.length + 1) cap) (acc ++ [ak]) := by
  have hsz := on.size
  have hnu : ∀ k, k < w.heap.size → ¬ own u k := fun k hk hu => by have := h3 k hu; omega
  have hown : own (.slice (some ⟨g, 0, none⟩) (fs.length + 1) cap) = fun k => k = g := by funext k; simp [own, Value.ownBlock, eq_comm]
  refine ⟨ry.only o6 (hnu X hx) (hnu R hr) (fun a n c ev => hnu _ (hs a n c ev)), on.trans (o6.mono fun k _ hk => .inr (h3 k hk)), hp, by simpa using hln, fs ++ [f], B, ?_, hk.next (fun k hk => o6.block k (h4 k hk).2.1 (h4 k hk).2.2), ?_, ?_⟩
  · have := Row.min r6
    unfold RowF
    rw [show (fs ++ [f]).length = fs.length + 1 by simp] at this ⊢
    exact this
  · intro k hk
    rcases r6.2 k hk with h | h
    · exact h3 k h
    · omega
  · intro k hk
    refine ⟨(h4 k hk).1, Nat.lt_of_lt_of_le (h4 k hk).2.1 o6.size, fun hu => ?_⟩
    rcases r6.2 k hu with h | h
    · exact (h4 k hk).2.2 h
    · have := (h4 k hk).2.1; omega
/-- the first kid's row -/
theorem kd_first {w wr : World} {X R : Nat} {v : Value} {l : List UInt8} {x : Ix} {f : F9} {r : PR} (o : Only (fun g => g = X ∨ g = R) w wr) (hf : FKeep (news w wr) wr f r.a r.k) (ry : RY wr X R v l r.p (x.to r.nx)) (hp : r.p ≤ 65536) (hn : x.next + 2 ≤ r.nx) (hxo : x.t.fro ≤ x.next) (cs : Array Value) (hcs : cs = f.arr) :
    KdS w (wr.alloc (.cells cs 27)) X R v l r.p x r.nx (.slice (some ⟨wr.heap.size, 0, none⟩) 1 1) [(r.a, r.k)] := by
  subst hcs
  have y := (Ext.refl wr).alloc (.cells f.arr 27)
  have hown : own (.slice (some ⟨wr.heap.size, 0, none⟩) 1 1) = fun k => k = wr.heap.size := by funext k; simp [own, Value.ownBlock, eq_comm]
  refine ⟨ry.ext y, o.ext y, hp, by simp; omega, [f], news w wr, ?_, ⟨hf.next (fun g hg => y.block g hg.2), trivial⟩, ?_, ?_⟩
  · rw [hown]; exact rowF_one f (heap_alloc_new _ _)
  · rw [hown]; intro g hg; rw [hg]; exact o.size
  · rw [hown]; intro g hg; exact ⟨hg.1, Nat.lt_of_lt_of_le hg.2 y.size, fun e => by have := hg.2; omega⟩

set_option maxRecDepth 100000 in
set_option maxHeartbeats 8000000 in
theorem only_any (fu : Nat) (hK : PathSpec fu) (w : World) (X R : Nat) (v : Value) (l : List UInt8) (p : Nat) (x : Ix) (h : RY w X R v l p x) (hp : p ≤ 65536) (hbig : x.t.til - x.t.fro ≤ 1048576) (hap : ∀ a n c, v = .slice (some a) n c → a.block ≠ R) :
    Calls Tryz.prog 90 #[.pointer (some ⟨X, 0, none⟩), .int .i64 (64 - fu : Nat)] w fun e w' => Only (fun g => g = X ∨ g = R) w w' ∧ Outc (onlyR (pathR l fu) l x p) (kidsF w w' X R v l x) e := by
  have hKd := kid_any fu hK w X R v l p x h hp hbig hap
  obtain ⟨ab, hab⟩ : ∃ ab : Nat, Hid (ab = 64 - fu) := ⟨_, rfl⟩
  rw [← hab.out] at hKd ⊢
  go_enter Tryz.func90, Tryz.ntmps90
  go_wp2_with fail
  go_at_call 118
  refine hKd.mono ?_
  rintro _ w1 ⟨q1, ho⟩
  cases hk : kidR (pathR l fu) x p with
  | error q =>
    have ho := ho.err hk
    subst ho
    exact ⟨rfl, q1, outc_err (by unfold onlyR; rw [hk]; rfl) rfl⟩
  | ok r =>
  obtain ⟨f, rfl, hfk, ry, hrp⟩ := ho.ok hk
  have hto : x.next + 2 ≤ r.nx := by
    unfold kidR at hk
    cases hn : needR x with
    | error q => rw [hn] at hk; simp [bindR] at hk
    | ok u => rw [hn] at hk; have := pathR_ok (show pathR l fu x.next x.t.til p = .ok r from hk); omega
  have s1 := kd_first q1 hfk ry hrp hto h.ok.2.1 f.arr rfl
  obtain ⟨kind, ka, kn, kc, desc, value, start, ma, mn, mc, fin, rule, dn⟩ := f
  simp only [F9.arr] at s1 ⊢
  clear hfk ry ho hKd
  go_upto_region 2 with fail
  generalize World.alloc w1 _ = w2 at s1 ⊢
  have hE := end_any w2 X R v l r.p _ s1.ry.rx
  go_wp2_with fail
  go_at_call 120
  refine hE.mono ?_
  rintro _ w3 ⟨q3, ho⟩
  cases ht : endR l (x.to r.nx) with
  | error q =>
    have ho := ho.err ht
    subst ho
    exact ⟨rfl, s1.on.ext q3, outc_err (by unfold onlyR; rw [hk]; show bindR (endR l (x.to r.nx)) _ = _; rw [ht]; rfl) rfl⟩
  | ok u9 =>
  have ho := ho.ok ht
  unfold unitE at ho
  subst ho
  have s3 := s1.ext q3
  have hR : Hid (onlyR (pathR l fu) l x p = .ok ([(r.a, r.k)], r.p)) := by show _ = _; unfold onlyR; rw [hk]; show bindR (endR l (x.to r.nx)) _ = _; rw [ht]; rfl
  clear s1 q3 hE hk ht
  go_wp2
  go_ret
  exact ⟨s3.on, outc_ok hR.out ⟨_, _, _, rfl, s3.keep, s3.ry.rx.rd, hrp, _, s3.ry.rx.ix⟩⟩

set_option maxRecDepth 100000 in
set_option maxHeartbeats 8000000 in
theorem kids_any (fu : Nat) (hK : PathSpec fu) (w : World) (X R : Nat) (v : Value) (l : List UInt8) (p : Nat) (x : Ix) (h : RY w X R v l p x) (hp : p ≤ 65536) (hbig : x.t.til - x.t.fro ≤ 1048576) (hap : ∀ a n c, v = .slice (some a) n c → a.block ≠ R) :
    Calls Tryz.prog 89 #[.pointer (some ⟨X, 0, none⟩), .int .i64 (64 - fu : Nat)] w fun e w' => Only (fun g => g = X ∨ g = R) w w' ∧ Outc (kidsR (pathR l fu) x p) (kidsF w w' X R v l x) e := by
  have hKd := kid_any fu hK w X R v l p x h hp hbig hap
  have hKn := fun W q n (hr : RY W X R v l q (x.to n)) (hq : q ≤ 65536) => kid_any fu hK W X R v l q (x.to n) hr hq hbig hap
  obtain ⟨ab, hab⟩ : ∃ ab : Nat, Hid (ab = 64 - fu) := ⟨_, rfl⟩
  rw [← hab.out] at hKd ⊢
  simp only [← hab.out] at hKn
  have hXl := IxA.lt h.rx.ix
  have hRl := h.rx.rd.lt
  have hsl := h.slt
  have hbg : Hid (x.t.til - x.t.fro ≤ 1048576) := hbig
  go_enter Tryz.func89, Tryz.ntmps89
  go_wp2_with fail
  go_at_call 118
  refine hKd.mono ?_
  rintro _ w1 ⟨q1, ho⟩
  cases hk : kidR (pathR l fu) x p with
  | error q =>
    have ho := ho.err hk
    subst ho
    exact ⟨rfl, q1, outc_err (by unfold kidsR; rw [hk]; rfl) rfl⟩
  | ok r =>
  obtain ⟨f, rfl, hfk, ry, hrp⟩ := ho.ok hk
  have hto : x.next + 2 ≤ r.nx := by
    unfold kidR at hk
    cases hn : needR x with
    | error q => rw [hn] at hk; simp [bindR] at hk
    | ok u => rw [hn] at hk; have := pathR_ok (show pathR l fu x.next x.t.til p = .ok r from hk); omega
  have s1 := kd_first q1 hfk ry hrp hto h.ok.2.1 f.arr rfl
  have hR : Hid (kidsR (pathR l fu) x p = kidsA (pathR l fu) (x.t.til + 1) (x.to r.nx) r.p [(r.a, r.k)]) := by show _ = _; unfold kidsR; rw [hk]; rfl
  obtain ⟨kind, ka, kn, kc, desc, value, start, ma, mn, mc, fin, rule, dn⟩ := f
  simp only [F9.arr] at s1 ⊢
  clear hfk ry ho hKd hk hbig
  go_wp2_with fail
  generalize World.alloc w1 _ = w2 at s1 ⊢
  generalize w1.heap.size = H at s1 ⊢
  go_loopg [5] (x.t.til + 1) (fun q u wr => ∃ (n p' : Nat) (acc : List (OwnF × FT)), Hid (kidsR (pathR l fu) x p = kidsA (pathR l fu) q (x.to n) p' acc) ∧ x.t.til - n < q ∧ KdS w wr X R v l p' x n u acc)
  case atStart => exact ⟨r.nx, r.p, [(r.a, r.k)], hR, by omega, s1⟩
  case round =>
    obtain ⟨n, p', acc, hM, hq, s4⟩ := hrel
    clear s1 hR
    obtain ⟨m, rfl⟩ : ∃ m, gk = m + 1 := ⟨gk - 1, by omega⟩
    have hL := isLeft_any wr X R l (x.to n) s4.ry.rx.ix
    cases hle : (x.to n).left with
    | false =>
      rw [hle] at hL
      have hR2 : Hid (kidsR (pathR l fu) x p = .ok (acc, p')) := by show _ = _; rw [hM.out, kidsA, hle]; rfl
      clear hM hle hKn
      obtain ⟨ua, um, uc, rfl⟩ := s4.lit
      go_wp2_with fail
      go_at_call 119
      refine hL.mono ?_
      rintro _ _ ⟨rfl, mm, rfl⟩
      have s5 := s4.ext ((Ext.refl wr).drewN mm)
      generalize wr.drewN mm = w5 at s5 ⊢
      go_wp2
      go_ret
      exact ⟨s5.on, outc_ok hR2.out ⟨_, _, _, rfl, s5.keep, s5.ry.rx.rd, s5.pp, _, s5.ry.rx.ix⟩⟩
    | true =>
      rw [hle] at hL
      have hnk : needR (x.to n) = .ok () := by unfold needR; rw [hle]; rfl
      have hltn : n < x.t.til := of_decide_eq_true hle
      go_wp2_with fail
      go_at_call 119
      refine hL.mono ?_
      rintro _ _ ⟨rfl, mm, rfl⟩
      have s5 := s4.ext ((Ext.refl wr).drewN mm)
      clear s4 hL
      generalize wr.drewN mm = w5 at s5 ⊢
      have hKd := hKn w5 p' n s5.ry s5.pp
      go_wp2_with fail
      go_at_call 118
      refine hKd.mono ?_
      rintro _ w6 ⟨q6, ho⟩
      have hkr : kidR (pathR l fu) (x.to n) p' = pathR l fu n x.t.til p' := by unfold kidR; rw [hnk]; rfl
      cases hk : pathR l fu n x.t.til p' with
      | error q =>
        have ho := ho.err (hkr.trans hk)
        subst ho
        exact ⟨rfl, s5.on.then q6, outc_err (by rw [hM.out, kidsA, hle, if_pos rfl]; show bindR (pathR l fu n x.t.til p') _ = _; rw [hk]; rfl) rfl⟩
      | ok r2 =>
      obtain ⟨f2, rfl, hfk, ry, hrp2⟩ := ho.ok (hkr.trans hk)
      have hto2 := pathR_ok hk
      have hM2 : Hid (kidsR (pathR l fu) x p = kidsA (pathR l fu) m (x.to r2.nx) r2.p (acc ++ [(r2.a, r2.k)])) := by show _ = _; rw [hM.out, kidsA, hle, if_pos rfl]; show bindR (pathR l fu n x.t.til p') _ = _; rw [hk]; rfl
      obtain ⟨fs, B, hfl, rw6, hkl, hB1, hB2, ry6, on6, hp6, hln6⟩ := s5.kid q6 hfk ry hrp2 hXl hRl (by omega)
      clear hfk ry ho hKd s5 hk hkr hM hle hnk q6
      obtain ⟨kind2, ka2, kn2, kc2, desc2, value2, start2, ma2, mn2, mc2, fin2, rule2, dn2⟩ := f2
      simp only [F9.arr]
      go_wp2_with (at_builtin; refine Hid.out ?_)
      refine wpList_flt rfl _ _ rfl w6 _ _ fs ⟨kind2, ka2, kn2, kc2, desc2, value2, start2, ma2, mn2, mc2, fin2, rule2, dn2⟩ _ rfl rw6 rfl _ rfl rfl ?hl ?_
      case hl => have := hbg.out; have := ry6.ok.2.2.1; have e5 : (x.to r2.nx).next = r2.nx := rfl; have e6 : (x.to r2.nx).t.til = x.t.til := rfl; omega
      intro g cap w7 r7 o7
      have s7 := kd_push r7 o7 hkl hB1 hB2 ry6 on6 hp6 hln6 hXl hRl hsl
      rw [hfl] at s7
      clear r7 o7 hkl hB1 hB2 ry6 on6 rw6
      go_wp2
      go_roundg m
      case measure => omega
      case rel => exact ⟨r2.nx, r2.p, acc ++ [(r2.a, r2.k)], hM2, by omega, s7⟩
end Go.Proofs.YtdcfiphffbgocaaGreatDoor
