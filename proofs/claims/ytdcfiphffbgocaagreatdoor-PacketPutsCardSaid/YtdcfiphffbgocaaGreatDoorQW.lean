/-
  'append' to a row of elements of any size (thin: t7/Xpush's first theorem).
-/
import Derived.Test.YtdcfiphffbgocaaGreatDoorQB
import Derived.Test.YtdcfiphffbgocaaGreatDoorQR
namespace Go.Proofs.YtdcfiphffbgocaaGreatDoor
open Go.RowKit

theorem run_append_rowS (w : World) (S : Nat → Prop) (t e tx ty : TypeId) (z : Value) (sz bytes : Nat) (hi : (Tryz.prog.info? e).map (fun i => (i.zero, i.size, i.bytes)) = some (some z, sz, bytes)) (ht : Tryz.prog.underlying t = some (.slice e)) (hzs : z.cells.size = sz)
    (v : Value) (n : Nat) (xs : List Value) (hrow : Row w S e sz v n xs) (x : Value) (m : Nat) (hm : 0 < m) (news : List Value) (hs : Src Tryz.prog sz tx x m news w) (h63 : n + m ≤ maxLen) (hb : (n + m) * bytes ≤ 140737488355328) :
    ∃ g cap w', (Builtin.append_ #[t, tx] ty #[v, x]).run Tryz.prog w = .ok (.slice (some ⟨g, 0, none⟩) (n + m) cap) w' ∧ Row w' (Up S w.heap.size) e sz (.slice (some ⟨g, 0, none⟩) (n + m) cap) (n + m) (xs ++ news) ∧ Only S w w' := by
  obtain ⟨i, hi0, hz, hsz, hby⟩ := info_parts hi
  have hsl : news.length = m * sz := hs.newsLen
  have hxl : xs.length = n * sz := hrow.1.1
  have h63' : ((n + m : Nat) : Int) ≤ 9223372036854775807 := by unfold maxLen at h63; omega
  rw [← hsz] at hs
  have grow : ∀ (base : Option Addr) (cap : Nat), v = .slice base n cap → cap < n + m → (Builtin.firstCells i.size n (.slice base n cap)).run Tryz.prog w.drew = .ok xs.toArray w.drew →
      ∃ g cap w', (Builtin.append_ #[t, tx] ty #[v, x]).run Tryz.prog w = .ok (.slice (some ⟨g, 0, none⟩) (n + m) cap) w' ∧ Row w' (Up S w.heap.size) e sz (.slice (some ⟨g, 0, none⟩) (n + m) cap) (n + m) (xs ++ news) ∧ Only S w w' := by
    intro base cap hv hc hold
    subst hv
    have hr := run_append_grow_src (P := Tryz.prog) w t tx ty e i z ht hi0 hz base n cap xs hold x m news hs hc h63' (by rw [hby]; exact growslice_fits hc hb)
    have hge := grownCap_ge w (n + m) cap e
    refine ⟨_, _, _, hr, ⟨⟨by rw [List.length_append, hxl, hsl, Nat.add_mul], .inr ⟨w.heap.size, _, _, rfl, Nat.zero_le _, heap_alloc_new w.drew _, hge, grownCap_le_maxLen w (n + m) cap e h63, ?_, ?_⟩⟩, fun k hk => ?_⟩, (Only.refl S w).drew.alloc _⟩
    · simp only [Builtin.zeroCells, Array.size_append, List.size_toArray, List.length_append, hxl, hsl]
      rw [Array.size_map, Array.size_range, hzs, ← Nat.add_mul, ← Nat.add_mul, Nat.add_sub_cancel' hge]
    · simp only [Array.toList_append]
      rw [List.take_append_of_le_length (by rw [List.length_append, hxl, hsl, ← Nat.add_mul]; exact Nat.le_refl _), List.take_of_length_le (by rw [List.length_append, hxl, hsl, ← Nat.add_mul]; exact Nat.le_refl _)]
    · simp only [Value.ownBlock, Option.some.injEq] at hk
      exact .inr (by omega)
  rcases hrow.1.2 with ⟨rfl, rfl⟩ | ⟨g, cap, cur, rfl, _, hg, hnc, hcm, hcs, htk⟩
  · have hxs : xs = [] := List.eq_nil_of_length_eq_zero (by simpa using hxl)
    subst hxs
    exact grow none 0 rfl (by omega) (run_firstCells_none w.drew i.size 0 0 0)
  · have hcell : ∀ j u, xs[j]? = some u → w.cell? ((⟨g, 0, none⟩ : Addr).add j) = some u := World.ownsRow.cells hrow.1 rfl
    by_cases hroom : n + m ≤ cap
    · have hcur : cur.size = cap * sz := hcs
      have hle : n * sz + m * sz ≤ cap * sz := by rw [← Nat.add_mul]; exact Nat.mul_le_mul_right _ hroom
      have hr := run_append_room_src (P := Tryz.prog) w t tx ty e i ht hi0 g 0 n cap x m news hs hroom
        (fun j hj => by
          rw [hsz, hsl] at *
          rw [cell_of_row w g _ cur e (0, 0) hg, Array.getElem?_eq_getElem (by omega)]; rfl)
        (fun j hj => by simp [World.frozen?, hg])
      rw [hsz] at hr
      have hh := heap_setCells_at g e (0, 0) news (0 + n * sz) w cur.toList hg (by rw [hsl]; simp; omega)
      refine ⟨g, cap, _, hr, ⟨⟨by rw [List.length_append, hxl, hsl, Nat.add_mul], .inr ⟨g, cap, _, rfl, Nat.zero_le _, hh, by omega, hcm, ?_, ?_⟩⟩, fun k hk => ?_⟩, Only.setCells w g _ news (hrow.2 g rfl)⟩
      · simp [hsl]; omega
      · simp only [Nat.zero_add, htk]
        rw [List.take_append_of_le_length (by rw [List.length_append, hxl, hsl, ← Nat.add_mul]; exact Nat.le_refl _), List.take_of_length_le (by rw [List.length_append, hxl, hsl, ← Nat.add_mul]; exact Nat.le_refl _)]
      · simp only [Value.ownBlock, Option.some.injEq] at hk
        exact .inl (hrow.2 k (by simp [Value.ownBlock, hk]))
    · refine grow (some ⟨g, 0, none⟩) cap rfl (by omega) ?_
      rw [hsz]
      exact run_firstCells_some w.drew sz n ⟨g, 0, none⟩ n cap xs hxl hcell

end Go.Proofs.YtdcfiphffbgocaaGreatDoor

/-
  twin: a filter in memory of its own, with marks behind its lists.
-/
namespace Go.Proofs.YtdcfiphffbgocaaGreatDoor
open Go.RowKit Go.Shelf

def spareS : ByteArray := ⟨#[115, 112, 97, 114, 101]⟩
/-- marks behind both lists of a filter -/
def SpX (w : World) (f : F9) (n : Nat) : Prop := (∃ g, f.ka = some ⟨g, 0, none⟩ ∧ f.kn = n ∧ n + 1 ≤ f.kc ∧ f.kc ≤ maxLen ∧ w.cell? ⟨g, n * 9 + 2, none⟩ = some (.string spareS)) ∧ ∃ g, f.ma = some ⟨g, 0, none⟩ ∧ f.mn + 1 ≤ f.mc ∧ f.mc ≤ maxLen ∧ w.cell? ⟨g, f.mn, none⟩ = some (.string spareS)
def SpC (w : World) : FT → Nat → Nat → Prop
  | .nil, _, _ => True
  | .cons _ kids rest, g, o => (∃ f : F9, (∀ j (h : j < f.arr.size), w.cell? ⟨g, o + j, none⟩ = some f.arr[j]) ∧ SpX w f kids.len ∧ ∀ g', f.ka = some ⟨g', 0, none⟩ → SpC w kids g' 0) ∧ SpC w rest g (o + 9)
def SpF (w : World) (f : F9) (k : FT) : Prop := SpX w f k.len ∧ ∀ g', f.ka = some ⟨g', 0, none⟩ → SpC w k g' 0
/-- a twin stands in every world that is alike in the blocks of B -/
def TwK (B : Nat → Prop) (w : World) (f : F9) (a : OwnF) (k : FT) : Prop := ∀ w' : World, (∀ g, B g → w'.heap[g]? = w.heap[g]?) → (FOwn w' f a ∧ FKids w' f k) ∧ SpF w' f k
theorem TwK.next {B : Nat → Prop} {w w' : World} {f : F9} {a : OwnF} {k : FT} (h : TwK B w f a k) (hw : ∀ g, B g → w'.heap[g]? = w.heap[g]?) : TwK B w' f a k := fun w2 h2 => h w2 (fun g hg => (h2 g hg).trans (hw g hg))
theorem TwK.wide {B B' : Nat → Prop} {w : World} {f : F9} {a : OwnF} {k : FT} (h : TwK B w f a k) (hB : ∀ g, B g → B' g) : TwK B' w f a k := fun w2 h2 => h w2 (fun g hg => h2 g (hB g hg))
theorem TwK.keep {B : Nat → Prop} {w : World} {f : F9} {a : OwnF} {k : FT} (h : TwK B w f a k) : FKeep B w f a k := fun w' hw => (h w' hw).1
def TwL (B : Nat → Prop) (w : World) : List F9 → List (OwnF × FT) → Prop
  | [], [] => True
  | f :: fs, (a, k) :: r => TwK B w f a k ∧ TwL B w fs r
  | _, _ => False
theorem TwL.keep {B : Nat → Prop} {w : World} : ∀ {fs : List F9} {r : List (OwnF × FT)}, TwL B w fs r → KeepL B w fs r
  | [], [], _ => trivial
  | _ :: _, (_, _) :: _, h => ⟨h.1.keep, TwL.keep h.2⟩
  | [], _ :: _, h => h.elim
  | _ :: _, [], h => h.elim
theorem TwL.next {B : Nat → Prop} {w w' : World} (hw : ∀ g, B g → w'.heap[g]? = w.heap[g]?) : ∀ {fs : List F9} {r : List (OwnF × FT)}, TwL B w fs r → TwL B w' fs r
  | [], [], _ => trivial
  | _ :: _, (_, _) :: _, h => ⟨h.1.next hw, TwL.next hw h.2⟩
  | [], _ :: _, h => h.elim
  | _ :: _, [], h => h.elim
theorem TwL.wide {B B' : Nat → Prop} {w : World} (hB : ∀ g, B g → B' g) : ∀ {fs : List F9} {r : List (OwnF × FT)}, TwL B w fs r → TwL B' w fs r
  | [], [], _ => trivial
  | _ :: _, (_, _) :: _, h => ⟨h.1.wide hB, TwL.wide hB h.2⟩
  | [], _ :: _, h => h.elim
  | _ :: _, [], h => h.elim
theorem TwL.snoc {B : Nat → Prop} {w : World} {f : F9} {a : OwnF} {k : FT} (hf : TwK B w f a k) : ∀ {fs : List F9} {r : List (OwnF × FT)}, TwL B w fs r → TwL B w (fs ++ [f]) (r ++ [(a, k)])
  | [], [], _ => ⟨hf, trivial⟩
  | _ :: _, (_, _) :: _, h => ⟨h.1, TwL.snoc hf h.2⟩
  | [], _ :: _, h => h.elim
  | _ :: _, [], h => h.elim
theorem TwL.spares {B : Nat → Prop} {w : World} {g : Nat} : ∀ (fs : List F9) (r : List (OwnF × FT)) (o : Nat), TwL B w fs r → (∀ i (hi : i < fs.length) j (hj : j < fs[i].arr.size), w.cell? ⟨g, o + (i * 9 + j), none⟩ = some (fs[i].arr[j])) → SpC w (toFT r) g o
  | [], [], _, _, _ => trivial
  | f :: fs, (a, k) :: r, o, h, hc => by
    obtain ⟨-, h1, h2⟩ := h.1 w (fun _ _ => rfl)
    refine ⟨⟨f, fun j hj => ?_, h1, h2⟩, TwL.spares fs r (o + 9) h.2 (fun i hi j hj => ?_)⟩
    · have := hc 0 (by simp) j hj
      simpa using this
    · have := hc (i + 1) (by simpa using hi) j (by simpa using hj)
      rw [show o + 9 + (i * 9 + j) = o + ((i + 1) * 9 + j) by omega]
      simpa using this
  | [], _ :: _, _, h, _ => h.elim
  | _ :: _, [], _, h, _ => h.elim
/-- a forest as a list -/
def FT.list : FT → List (OwnF × FT)
  | .nil => []
  | .cons a k r => (a, k) :: r.list
theorem toFT_list : ∀ k : FT, toFT k.list = k
  | .nil => rfl
  | .cons a k r => by simp [FT.list, toFT, toFT_list r]
/-- a row of twins and one mark, cut: kids -/
theorem tw_kids {S B : Nat → Prop} {w : World} {g c : Nat} {fs : List F9} {fm : F9} {k : FT} (h : RowF w S (.slice (some ⟨g, 0, none⟩) (fs.length + 1) c) (fs ++ [fm])) (hm : fm.desc = spareS) (hk : TwL B w fs k.list) :
    (fs.length = k.len ∧ fs.length ≤ c ∧ c ≤ maxLen ∧ (k.len = 0 ∨ ∃ g' o', (some ⟨g, 0, none⟩ : Option Addr) = some ⟨g', o', none⟩ ∧ FtCells w k g' o')) ∧ fs.length + 1 ≤ c ∧ w.cell? ⟨g, fs.length * 9 + 2, none⟩ = some (.string spareS) ∧ SpC w k g 0 := by
  have hl : fs.length = k.len := by rw [hk.keep.len, ← toFT_len, toFT_list]
  have hlen : (fs ++ [fm]).length = fs.length + 1 := by simp
  have hcell : ∀ i (hi : i < (fs ++ [fm]).length) j (hj : j < (fs ++ [fm])[i].arr.size), w.cell? ⟨g, 0 + (i * 9 + j), none⟩ = some ((fs ++ [fm])[i].arr[j]) := fun i hi j hj => by
    have hc := World.ownsRow.cells h.1 (g := g) rfl (i * 9 + j) _ (flatF_cell _ i j hi hj)
    rw [Addr.add_lit] at hc
    exact hc
  have hcb : fs.length + 1 ≤ c ∧ c ≤ maxLen := by
    rcases h.1.2 with ⟨e, hn⟩ | ⟨g2, cap, cur, e, hb, hg, h1, h2, h3, h4⟩
    · cases e
    · simp only [Value.slice.injEq] at e
      obtain ⟨-, -, rfl⟩ := e
      rw [hlen] at h1
      exact ⟨h1, h2⟩
  have hcell2 : ∀ i (hi : i < fs.length) j (hj : j < fs[i].arr.size), w.cell? ⟨g, 0 + (i * 9 + j), none⟩ = some (fs[i].arr[j]) := fun i hi j hj => by
    have := hcell i (by rw [hlen]; omega) j (by rw [List.getElem_append_left hi]; exact hj)
    simpa [List.getElem_append_left hi] using this
  refine ⟨⟨hl, by omega, hcb.2, .inr ⟨g, 0, rfl, ?_⟩⟩, hcb.1, ?_, ?_⟩
  · have := forest fs k.list 0 hk.keep hcell2
    rwa [toFT_list] at this
  · have := hcell fs.length (by rw [hlen]; omega) 2 (by simp [F9.arr])
    simpa [F9.arr, hm] using this
  · have := TwL.spares fs k.list 0 hk hcell2
    rwa [toFT_list] at this
end Go.Proofs.YtdcfiphffbgocaaGreatDoor

/-
  twin: what stands while kids are copied.
-/
namespace Go.Proofs.YtdcfiphffbgocaaGreatDoor
open Go.RowKit Go.Shelf

def FtSz : FT → Prop
  | .nil => True
  | .cons a k r => a.ms.length ≤ 8796093022000 ∧ k.len ≤ 900000000000 ∧ FtSz k ∧ FtSz r
def TwinP (k : FT) : Prop := ∀ (w : World) (f : F9) (a : OwnF), FOwn w f a → FKids w f k → a.ms.length ≤ 8796093022000 → k.len ≤ 900000000000 → FtSz k →
  Calls Tryz.prog 18 #[.agg f.arr] w fun e w' => ∃ g : F9, e = .returned (.agg g.arr) ∧ Ext w w' ∧ TwK (news w w') w' g a k
def TwinA : FT → Prop
  | .nil => True
  | .cons _ k r => TwinP k ∧ TwinA r
/-- what stands while kids are copied -/
structure TwS (w wr : World) (f : F9) (k ki : FT) (i g c : Nat) (fs : List F9) : Prop where
  ext : Ext w wr
  f1 : FlT wr w.heap.size f
  zl : FlT wr (w.heap.size + 1) F9.zero
  f3 : FlT wr (w.heap.size + 2) f
  row : RowF wr (fun b => b = g) (.slice (some ⟨g, 0, none⟩) fs.length c) fs
  gh : w.heap.size + 3 ≤ g
  kp : ∃ (acc : List (OwnF × FT)) (B : Nat → Prop), TwL B wr fs acc ∧ (∀ b, B b → w.heap.size + 3 ≤ b ∧ b < wr.heap.size ∧ b ≠ g) ∧ acc ++ ki.list = k.list
  len : fs.length = i ∧ i + ki.len = k.len
  src : ki.len = 0 ∨ ∃ g0 o0, f.ka = some ⟨g0, o0, none⟩ ∧ FtCells w ki g0 (o0 + 9 * i)
  ok : TwinA ki ∧ FtSz ki
/-- the next kid -/
theorem TwS.next {w wr : World} {f : F9} {k : FT} {a : OwnF} {l r : FT} {i g c : Nat} {fs : List F9} (h : TwS w wr f k (.cons a l r) i g c fs) : ∃ (g0 o0 : Nat) (f2 : F9), f.ka = some ⟨g0, o0, none⟩ ∧ FOwn wr f2 a ∧ FKids wr f2 l ∧ (∀ j (hj : j < f2.arr.size), wr.cell? ⟨g0, o0 + 9 * i + j, none⟩ = some f2.arr[j]) ∧ a.ms.length ≤ 8796093022000 ∧ l.len ≤ 900000000000 ∧ FtSz l ∧ TwinP l ∧ i < k.len := by
  rcases h.src with h0 | ⟨g0, o0, h1, ⟨f2, k1, k2, k3, k4, k5, k6⟩, -⟩
  · simp [FT.len] at h0
  · have := h.len.2
    simp only [FT.len] at this
    exact ⟨g0, o0, f2, h1, k1.ext h.ext, FKids.ext ⟨k3, k4, k5, k6⟩ h.ext, fun j hj => h.ext.cell (k2 j hj), h.ok.2.1, h.ok.2.2.1, h.ok.2.2.2.1, h.ok.1.1, by omega⟩
/-- a kid was copied, and appended -/
theorem TwS.push {w wr w5 w6 : World} {f : F9} {k : FT} {a : OwnF} {l r : FT} {i g c g6 c6 : Nat} {fs : List F9} {f5 : F9} (h : TwS w wr f k (.cons a l r) i g c fs) (y : Ext wr w5) (hk : TwK (news wr w5) w5 f5 a l)
    (r6 : RowF w6 (Up (fun b => b = g) w5.heap.size) (.slice (some ⟨g6, 0, none⟩) (fs.length + 1) c6) (fs ++ [f5])) (o6 : Only (fun b => b = g) w5 w6) : TwS w w6 f k r (i + 1) g6 c6 (fs ++ [f5]) := by
  obtain ⟨acc, B, k1, k2, k3⟩ := h.kp
  have hg := h.gh
  have hgl : g < wr.heap.size := Row.lt h.row (by simp [own, Value.ownBlock])
  have hsz := y.size
  have hs6 := o6.size
  have hg6 : g6 = g ∨ w5.heap.size ≤ g6 := r6.2 g6 (by simp [Value.ownBlock])
  have e6 : Ext w w6 := (h.ext.trans y).then o6 (fun b hb => by omega)
  have hfl : ∀ X f', X < w.heap.size + 3 → FlT wr X f' → FlT w6 X f' := fun X f' hX hf => (hf.ext y).only o6 (by omega)
  refine ⟨e6, hfl _ _ (by omega) h.f1, hfl _ _ (by omega) h.zl, hfl _ _ (by omega) h.f3, ?_, ?_, ⟨acc ++ [(a, l)], fun b => B b ∨ news wr w5 b, ?_, ?_, ?_⟩, ⟨by simp [h.len.1], by have := h.len.2; simp only [FT.len] at this; omega⟩, ?_, h.ok.1.2, h.ok.2.2.2.2⟩
  · have := Row.min r6
    have hown : own (.slice (some ⟨g6, 0, none⟩) (fs.length + 1) c6) = fun b => b = g6 := by funext b; simp [own, Value.ownBlock, eq_comm]
    rw [hown] at this
    unfold RowF
    rw [show (fs ++ [f5]).length = fs.length + 1 by simp] at this ⊢
    exact this
  · rcases hg6 with e | e
    · omega
    · have := h.ext.size
      have hw : w.heap.size + 3 ≤ wr.heap.size := by omega
      omega
  · refine (TwL.snoc (hk.wide (fun b hb => .inr hb)) ((k1.next (fun b hb => y.block b (k2 b hb).2.1)).wide (fun b hb => .inl hb))).next (fun b hb => o6.block b ?_ ?_)
    · rcases hb with hb | hb
      · exact Nat.lt_of_lt_of_le (k2 b hb).2.1 hsz
      · exact hb.2
    · rcases hb with hb | hb
      · exact (k2 b hb).2.2
      · have := hb.1; omega
  · rintro b (hb | hb)
    · have := k2 b hb
      exact ⟨this.1, by omega, by rcases hg6 with e | e <;> omega⟩
    · have := hb.1
      have := hb.2
      exact ⟨by omega, by omega, by rcases hg6 with e | e <;> omega⟩
  · rw [← k3]; simp [FT.list]
  · rcases h.src with h0 | ⟨g0, o0, h1, -, h3⟩
    · simp [FT.len] at h0
    · refine .inr ⟨g0, o0, h1, ?_⟩
      rw [show o0 + 9 * (i + 1) = o0 + 9 * i + 9 by omega]
      exact h3
/-- all kids were copied, and a mark is behind them -/
theorem TwS.done {w wr w6 : World} {f : F9} {k : FT} {i g c g6 c6 : Nat} {fs : List F9} {fm : F9} (h : TwS w wr f k .nil i g c fs) (hm : fm.desc = spareS)
    (r6 : RowF w6 (Up (fun b => b = g) wr.heap.size) (.slice (some ⟨g6, 0, none⟩) (fs.length + 1) c6) (fs ++ [fm])) (o6 : Only (fun b => b = g) wr w6) :
    fs.length = k.len ∧ Ext w w6 ∧ FlT w6 w.heap.size f ∧ FlT w6 (w.heap.size + 1) F9.zero ∧ FlT w6 (w.heap.size + 2) f ∧ w.heap.size + 3 ≤ g6 ∧ k.len + 1 ≤ c6 ∧
    ∀ W : World, (∀ b, w.heap.size + 3 ≤ b → b < w6.heap.size → W.heap[b]? = w6.heap[b]?) → (k.len ≤ c6 ∧ c6 ≤ maxLen ∧ (k.len = 0 ∨ ∃ g' o', (some ⟨g6, 0, none⟩ : Option Addr) = some ⟨g', o', none⟩ ∧ FtCells W k g' o')) ∧ W.cell? ⟨g6, k.len * 9 + 2, none⟩ = some (.string spareS) ∧ SpC W k g6 0 := by
  obtain ⟨acc, B, k1, k2, k3⟩ := h.kp
  simp only [FT.list, List.append_nil] at k3
  subst k3
  have hg := h.gh
  have hgl : g < wr.heap.size := Row.lt h.row (by simp [own, Value.ownBlock])
  have hs6 := o6.size
  have hg6 : g6 = g ∨ wr.heap.size ≤ g6 := r6.2 g6 (by simp [Value.ownBlock])
  have hlen : fs.length = k.len := by have := h.len; simp only [FT.len] at this; omega
  have hfl : ∀ X f', X < w.heap.size + 3 → FlT wr X f' → FlT w6 X f' := fun X f' hX hf => hf.only o6 (by omega)
  have hwr : w.heap.size + 3 ≤ wr.heap.size := by omega
  have hg6l : g6 < w6.heap.size := Row.lt r6 (by simp [own, Value.ownBlock])
  have t6 : TwL B w6 fs k.list := k1.next (fun b hb => o6.block b (k2 b hb).2.1 (k2 b hb).2.2)
  have hcb : fs.length + 1 ≤ c6 := (tw_kids r6 hm t6).2.1
  refine ⟨hlen, h.ext.then o6 (fun b hb => by omega), hfl _ _ (by omega) h.f1, hfl _ _ (by omega) h.zl, hfl _ _ (by omega) h.f3, by omega, by omega, fun W hW => ?_⟩
  have rW : RowF W (Up (fun b => b = g) wr.heap.size) (.slice (some ⟨g6, 0, none⟩) (fs.length + 1) c6) (fs ++ [fm]) := Row.alike r6 (fun b hb => by
    have : b = g6 := by simpa [own, Value.ownBlock, eq_comm] using hb
    subst this
    exact hW b (by omega) hg6l)
  have tW := t6.next (w' := W) (fun b hb => hW b (k2 b hb).1 (Nat.lt_of_lt_of_le (k2 b hb).2.1 hs6))
  obtain ⟨⟨q1, q2, q3, q4⟩, q5, q6, q7⟩ := tw_kids rW hm tW
  rw [hlen] at q2 q6
  exact ⟨⟨q2, q3, q4⟩, q6, q7⟩
/-- one filter is appended, to as many as may be -/
theorem wpList_fltB {ops : Array Oper} {rest : List Oper} {o : Oper} {a : Act} {Q : Exit → Act → World → Prop} (hgd : o.guard = none) (s x : Operand)
    (ho : o.op = .call { callee := .builtin .append, args := #[s, x], argTypes := #[24, 24] })
    (w0 : World) (S : Nat → Prop) (v : Value) (fs : List F9) (f : F9) (cs : Array Value) (hcs : cs = f.arr) (hrow : RowF w0 S v fs) (hs : a.eval s = v) (H : Nat)
    (hx : a.eval x = .slice (some ⟨H, 0, none⟩) 1 1) (hH : w0.heap.size = H) (hlen : fs.length ≤ 900000000000)
    (h : ∀ g cap w', RowF w' (Up S w0.heap.size) (.slice (some ⟨g, 0, none⟩) (fs.length + 1) cap) (fs ++ [f]) → Only S w0 w' → wpList Tryz.prog ops Q rest (a.put o.dst (.slice (some ⟨g, 0, none⟩) (fs.length + 1) cap)) w') :
    wpList Tryz.prog ops Q (o :: rest) a (w0.alloc (.cells cs 27)) := by
  subst hcs
  refine wpList_rowpush hgd s x 24 27 _ 9 144 infoF Tryz.underlying24 rfl (by decide) ho w0 S v fs.length (flatF fs) _ hrow hs 1 1 H hx hH (by simp [F9.arr]) (by simp [F9.arr, Value.oneCell']) (by decide) (by unfold maxLen; omega) (by omega) ?_
  intro g cap w' h1 h2
  refine h g cap w' ?_ h2
  have e1 : flatF (fs ++ [f]) = flatF fs ++ f.arr.toList := by simp [flatF]
  have e2 : (fs ++ [f]).length = fs.length + 1 := by simp
  unfold RowF
  rw [e1, e2]
  exact h1
/-- nothing is appended -/
theorem run_append_none (w : World) (t tx ty e : TypeId) (z : Value) (sz bytes : Nat) (hi : (Tryz.prog.info? e).map (fun i => (i.zero, i.size, i.bytes)) = some (some z, sz, bytes)) (ht : Tryz.prog.underlying t = some (.slice e)) (g n c : Nat) (x : Value) (hs : Src Tryz.prog sz tx x 0 [] w) (hn : n ≤ c) :
    (Builtin.append_ #[t, tx] ty #[.slice (some ⟨g, 0, none⟩) n c, x]).run Tryz.prog w = .ok (.slice (some ⟨g, 0, none⟩) n c) w := by
  obtain ⟨i, hi0, hz, hsz, hby⟩ := info_parts hi
  rw [← hsz] at hs
  have := run_append_room_src (P := Tryz.prog) w t tx ty e i ht hi0 g 0 n c x 0 [] hs (by omega) (fun j hj => by simp at hj) (fun j hj => by simp at hj)
  simpa [World.setCells] using this
/-- a slice of texts as what is appended -/
theorem src_texts {w : World} {v : Value} {ms : List ByteArray} (h : SSl w v ms) : Src Tryz.prog 1 25 v ms.length (ms.map Value.string) w := by
  obtain ⟨a, cap, rfl, h1, h2, h3⟩ := h
  cases ms with
  | nil =>
    cases a with
    | none => exact Src.ofNil w Tryz.underlying25 cap
    | some a => exact Src.ofSlice w Tryz.underlying25 a 0 cap [] rfl (fun j u hu => by simp at hu) (fun u hu => by cases hu)
  | cons m ms =>
    obtain ⟨g, o, rfl, -⟩ := h3 0 (by simp)
    refine Src.ofSlice w Tryz.underlying25 ⟨g, o, none⟩ _ cap _ (by simp) (fun j u hu => ?_) (fun u hu => ?_)
    · have hj : j < (m :: ms).length := by
        have := (List.getElem?_eq_some_iff.1 hu).1
        simpa using this
      obtain ⟨g2, o2, e2, hc⟩ := h3 j hj
      cases e2
      rw [List.getElem?_map, List.getElem?_eq_getElem hj] at hu
      simp only [Option.map_some, Option.some.injEq] at hu
      subst hu
      rw [Addr.add_lit]
      exact hc
    · obtain ⟨s, -, rfl⟩ := List.mem_map.1 hu
      rfl
theorem wpList_strB {ops : Array Oper} {rest : List Oper} {o : Oper} {a : Act} {Q : Exit → Act → World → Prop} (hgd : o.guard = none) (s x : Operand)
    (ho : o.op = .call { callee := .builtin .append, args := #[s, x], argTypes := #[25, 25] })
    (w0 : World) (S : Nat → Prop) (v : Value) (l : List ByteArray) (b : ByteArray) (hrow : RowS w0 S v l) (hs : a.eval s = v) (H : Nat)
    (hx : a.eval x = .slice (some ⟨H, 0, none⟩) 1 1) (hH : w0.heap.size = H) (hlen : l.length ≤ 8796093022000)
    (h : ∀ g cap w', RowS w' (Up S w0.heap.size) (.slice (some ⟨g, 0, none⟩) (l.length + 1) cap) (l ++ [b]) → Only S w0 w' → wpList Tryz.prog ops Q rest (a.put o.dst (.slice (some ⟨g, 0, none⟩) (l.length + 1) cap)) w') :
    wpList Tryz.prog ops Q (o :: rest) a (w0.alloc (.cells #[.string b] 9)) := by
  refine wpList_rowpush hgd s x 25 9 _ 1 16 infoS Tryz.underlying25 rfl (by decide) ho w0 S v l.length (l.map Value.string) _ hrow hs 1 1 H hx hH rfl (by simp [Value.oneCell']) (by decide) (by unfold maxLen; omega) (by omega) ?_
  intro g cap w' h1 h2
  exact h g cap w' (rowS_of h1 (by simp) (by simp) (fun _ h => h)) h2

theorem app_texts {w : World} {S : Nat → Prop} {g c : Nat} {v : Value} {ms : List ByteArray} (ty : TypeId) (r : RowS w S (.slice (some ⟨g, 0, none⟩) 0 c) []) (hs : SSl w v ms) (hl : ms.length ≤ 8796093022000) :
    ∃ g' c' w', (Builtin.append_ #[25, 25] ty #[.slice (some ⟨g, 0, none⟩) 0 c, v]).run Tryz.prog w = .ok (.slice (some ⟨g', 0, none⟩) ms.length c') w' ∧ RowS w' (Up S w.heap.size) (.slice (some ⟨g', 0, none⟩) ms.length c') ms ∧ Only S w w' := by
  have hsrc := src_texts hs
  by_cases hm : 0 < ms.length
  · obtain ⟨g', c', w', h1, h2, h3⟩ := run_append_rowS w S 25 9 25 ty _ 1 16 infoS Tryz.underlying25 rfl _ 0 [] r v ms.length hm _ hsrc (by unfold maxLen; omega) (by omega)
    rw [Nat.zero_add] at h1 h2
    exact ⟨g', c', w', h1, rowS_of h2 rfl (by simp) (fun _ h => h), h3⟩
  · obtain rfl : ms = [] := List.eq_nil_of_length_eq_zero (by omega)
    have h1 := run_append_none w 25 25 ty 9 _ 1 16 infoS Tryz.underlying25 g 0 c v hsrc (Nat.zero_le _)
    exact ⟨g, c, w, h1, Row.wide r (fun _ h => .inl h), Only.refl _ _⟩
theorem tw_mids {w : World} {S : Nat → Prop} {g c : Nat} {ms : List ByteArray} (h : RowS w S (.slice (some ⟨g, 0, none⟩) (ms.length + 1) c) (ms ++ [spareS])) : SSl w (.slice (some ⟨g, 0, none⟩) ms.length c) ms ∧ ms.length + 1 ≤ c ∧ c ≤ maxLen ∧ w.cell? ⟨g, ms.length, none⟩ = some (.string spareS) := by
  obtain ⟨a, cap, e, h1, h2, h3⟩ := h.ssl
  simp only [Value.slice.injEq] at e
  obtain ⟨rfl, -, rfl⟩ := e
  have hl : (ms ++ [spareS]).length = ms.length + 1 := by simp
  refine ⟨⟨_, _, rfl, by omega, h2, fun j hj => ?_⟩, by omega, h2, ?_⟩
  · obtain ⟨g', o', e', hc⟩ := h3 j (by omega)
    rw [List.getElem_append_left hj] at hc
    exact ⟨g', o', e', hc⟩
  · obtain ⟨g', o', e', hc⟩ := h3 ms.length (by omega)
    simp only [Option.some.injEq, Addr.mk.injEq] at e'
    obtain ⟨rfl, rfl, -⟩ := e'
    simpa using hc
theorem twin_end {w w11 : World} {g : F9} {a : OwnF} {k : FT} (ext : Ext w w11) (z : FlT w11 (w.heap.size + 1) F9.zero) (hK : TwK (fun b => w.heap.size + 3 ≤ b ∧ b < w11.heap.size) w11 g a k) (tm : Array Value) (htm : tm.getD 2 undef = .pointer (some ⟨w.heap.size + 1, 0, none⟩)) :
    bodyPost Tryz.prog Tryz.f18 (fun e w' => ∃ g : F9, e = .returned (.agg g.arr) ∧ Ext w w' ∧ TwK (news w w') w' g a k) Exit.ret { tmps := tm, defers := [] } (putF w11 (w.heap.size + 1) g) := by
  have o := put_only w11 (w.heap.size + 1) g
  refine bodyPost_ret (results_f rfl _ _ (w.heap.size + 1) _ rfl htm (z.put g)) rfl ?_
  exact ⟨g, rfl, ext.then o (fun b hb => by omega), (hK.next (fun b hb => o.block b hb.2 (by have := hb.1; omega))).wide (fun b hb => ⟨by have := hb.1; omega, Nat.lt_of_lt_of_le hb.2 o.size⟩)⟩
end Go.Proofs.YtdcfiphffbgocaaGreatDoor

/-
  twin, of any filter.
-/
namespace Go.Proofs.YtdcfiphffbgocaaGreatDoor
open Go.RowKit Go.Shelf

set_option maxRecDepth 100000 in
set_option maxHeartbeats 8000000 in
theorem twin_step (k : FT) (hA : TwinA k) : TwinP k := by
  intro w f a hO hK hms hkl hz
  obtain ⟨hkn, hkc, hkm, hF⟩ := hK
  have hmn := hO.mn
  obtain ⟨i0, hi0, hz0, hz1, hz2⟩ := info_parts infoF
  obtain ⟨j0, hj0, hy0, hy1, hy2⟩ := info_parts infoS
  have hOh : Hid (FOwn w f a) := hO
  have hFh : Hid (k.len = 0 ∨ ∃ g0 o0, f.ka = some ⟨g0, o0, none⟩ ∧ FtCells w k g0 o0) := hF
  have hAh : Hid (TwinA k ∧ FtSz k) := ⟨hA, hz⟩
  clear hO hF hA hz
  obtain ⟨kind, ka, kn, kc, desc, value, start, ma, mn, mc, fin, rule, dn⟩ := f
  simp only at hkn hkc hkm hmn hFh
  subst hkn hmn
  simp only [F9.arr]
  have f1 : FlT (w.alloc (.cells #[.int .i8 kind, .slice ka k.len kc, .string desc, .string value, .string start, .slice ma a.ms.length mc, .string fin, .string rule, .bool dn] 27)) w.heap.size ⟨kind, ka, k.len, kc, desc, value, start, ma, a.ms.length, mc, fin, rule, dn⟩ := heap_alloc_new _ _
  have x1 := (Ext.refl w).alloc (.cells #[.int .i8 kind, .slice ka k.len kc, .string desc, .string value, .string start, .slice ma a.ms.length mc, .string fin, .string rule, .bool dn] 27)
  have z2 := fl_new (w.alloc (.cells #[.int .i8 kind, .slice ka k.len kc, .string desc, .string value, .string start, .slice ma a.ms.length mc, .string fin, .string rule, .bool dn] 27))
  rw [World.size_alloc] at z2
  have x2 := (Ext.refl (w.alloc (.cells #[.int .i8 kind, .slice ka k.len kc, .string desc, .string value, .string start, .slice ma a.ms.length mc, .string fin, .string rule, .bool dn] 27))).alloc (.cells #[.int .i8 0, .slice none 0 0, .string ⟨#[]⟩, .string ⟨#[]⟩, .string ⟨#[]⟩, .slice none 0 0, .string ⟨#[]⟩, .string ⟨#[]⟩, .bool false] 27)
  have f3 : FlT (((w.alloc (.cells #[.int .i8 kind, .slice ka k.len kc, .string desc, .string value, .string start, .slice ma a.ms.length mc, .string fin, .string rule, .bool dn] 27)).alloc (.cells #[.int .i8 0, .slice none 0 0, .string ⟨#[]⟩, .string ⟨#[]⟩, .string ⟨#[]⟩, .slice none 0 0, .string ⟨#[]⟩, .string ⟨#[]⟩, .bool false] 27)).alloc (.cells #[.int .i8 kind, .slice ka k.len kc, .string desc, .string value, .string start, .slice ma a.ms.length mc, .string fin, .string rule, .bool dn] 27)) ((w.alloc (.cells #[.int .i8 kind, .slice ka k.len kc, .string desc, .string value, .string start, .slice ma a.ms.length mc, .string fin, .string rule, .bool dn] 27)).alloc (.cells #[.int .i8 0, .slice none 0 0, .string ⟨#[]⟩, .string ⟨#[]⟩, .string ⟨#[]⟩, .slice none 0 0, .string ⟨#[]⟩, .string ⟨#[]⟩, .bool false] 27)).heap.size ⟨kind, ka, k.len, kc, desc, value, start, ma, a.ms.length, mc, fin, rule, dn⟩ := heap_alloc_new _ _
  rw [World.size_alloc, World.size_alloc] at f3
  have x3 := (Ext.refl ((w.alloc (.cells #[.int .i8 kind, .slice ka k.len kc, .string desc, .string value, .string start, .slice ma a.ms.length mc, .string fin, .string rule, .bool dn] 27)).alloc (.cells #[.int .i8 0, .slice none 0 0, .string ⟨#[]⟩, .string ⟨#[]⟩, .string ⟨#[]⟩, .slice none 0 0, .string ⟨#[]⟩, .string ⟨#[]⟩, .bool false] 27))).alloc (.cells #[.int .i8 kind, .slice ka k.len kc, .string desc, .string value, .string start, .slice ma a.ms.length mc, .string fin, .string rule, .bool dn] 27)
  have s3 : Hid ((((w.alloc (.cells #[.int .i8 kind, .slice ka k.len kc, .string desc, .string value, .string start, .slice ma a.ms.length mc, .string fin, .string rule, .bool dn] 27)).alloc (.cells #[.int .i8 0, .slice none 0 0, .string ⟨#[]⟩, .string ⟨#[]⟩, .string ⟨#[]⟩, .slice none 0 0, .string ⟨#[]⟩, .string ⟨#[]⟩, .bool false] 27)).alloc (.cells #[.int .i8 kind, .slice ka k.len kc, .string desc, .string value, .string start, .slice ma a.ms.length mc, .string fin, .string rule, .bool dn] 27)).heap.size = w.heap.size + 3) := by show _ = _; rw [World.size_alloc, World.size_alloc, World.size_alloc]
  have f1 := (f1.ext x2).ext x3
  have z2 := z2.ext x3
  have y3 := (x1.trans x2).trans x3
  clear x1 x2 x3
  go_enter Tryz.func18, Tryz.ntmps18
  go_upto_region 2 with fail
  simp only [Nat.add_assoc, Nat.reduceAdd] at f1 z2 f3 ⊢
  generalize World.alloc (World.alloc (World.alloc w _) _) _ = w3 at f1 z2 f3 y3 s3 ⊢
  obtain ⟨c0, c1, c2, c3, c4, c5, c6, c7, c8, -⟩ := f1.cells
  simp only at c0 c1 c2 c3 c4 c5 c6 c7 c8
  obtain ⟨HS, hHS⟩ : ∃ HS, HS = w.heap.size := ⟨_, rfl⟩
  have hHSh : Hid (HS = w.heap.size) := hHS
  rw [← hHS] at c0 c1 c2 c3 c4 c5 c6 c7 c8 ⊢
  clear hHS
  go_wp2_with (first
    | (at_make; refine wpList_make_own _ rfl _ _ 24 rfl w3.heap.size 27 i0 _ 9 Tryz.underlying24 hi0 hz0 hz1 .i64 .i64 _ (k.len + 1) rfl rfl ?c1 ?c2 ?c3 ?c4 ?_))
  case c1 => omega
  case c2 => rw [hz2]; omega
  case c3 => unfold maxLen; omega
  case c4 => exact Nat.le_refl _
  intro w4 hown0 hgrow0
  have x4 : Ext w3 w4 := (Below.refl _ _).grown hgrow0 (Nat.le_refl _) (fun k hk => by cases hk)
  have r4 : RowF w4 (fun b => b = w3.heap.size) (.slice (some ⟨w3.heap.size, 0, none⟩) ([] : List F9).length (k.len + 1)) [] := by
    refine ⟨⟨by simp [flatF], ?_⟩, fun k hk => (Option.some.inj hk).symm⟩
    rcases hown0.2 with ⟨e, _⟩ | ⟨g', c', cur, e, _, h3, h4, h5, h6, _⟩
    · cases e
    · exact .inr ⟨g', c', cur, e, Nat.zero_le _, h3, h4, h5, h6, by simp [flatF]⟩
  have hT : TwS w w4 ⟨kind, ka, k.len, kc, desc, value, start, ma, a.ms.length, mc, fin, rule, dn⟩ k k 0 w3.heap.size (k.len + 1) [] := by
    refine ⟨y3.trans x4, f1.ext x4, z2.ext x4, f3.ext x4, r4, by rw [s3.out]; exact Nat.le_refl _, ⟨[], fun _ => False, trivial, fun b hb => hb.elim, rfl⟩, ⟨rfl, by omega⟩, ?_, hAh.out⟩
    rcases hFh.out with h | ⟨g0, o0, e, h⟩
    · exact .inl h
    · exact .inr ⟨g0, o0, e, by simpa using h⟩
  obtain ⟨c0, c1, c2, c3, c4, c5, c6, c7, c8, -⟩ := hT.f1.cells
  simp only at c0 c1 c2 c3 c4 c5 c6 c7 c8
  rw [← hHSh.out] at c0 c1 c2 c3 c4 c5 c6 c7 c8
  have hr4 : Hid (w3.heap.size = w.heap.size + 3) := s3
  clear hown0 hgrow0 x4 r4 f1 z2 f3 y3 hAh hFh
  go_wp2_with fail
  go_loopg [4, 16] (k.len + 1) (fun q v4 v16 wr => ∃ (i : Nat) (ki : FT) (g c : Nat) (fs : List F9), v4 = .slice (some ⟨g, 0, none⟩) fs.length c ∧ v16 = .int .i64 i ∧ Hid (ki.len < q) ∧ TwS w wr ⟨kind, ka, k.len, kc, desc, value, start, ma, a.ms.length, mc, fin, rule, dn⟩ k ki i g c fs)
  case atStart => exact ⟨0, k, w3.heap.size, k.len + 1, [], rfl, rfl, by show _ < _; omega, hT⟩
  case round =>
    clear hT c0 c1 c2 c3 c4 c5 c6 c7 c8
    obtain ⟨i, ki, g, c, fs, rfl, rfl, hq, t⟩ := hrel
    have hql := hq.out
    obtain ⟨c0, c1, c2, c3, c4, c5, c6, c7, c8, -⟩ := t.f1.cells
    simp only at c0 c1 c2 c3 c4 c5 c6 c7 c8
    rw [← hHSh.out] at c0 c1 c2 c3 c4 c5 c6 c7 c8
    cases ki with
    | cons a2 l r =>
      obtain ⟨g0, o0, f2, hka, hO2, hK2, hc9, hms2, hkl2, hz2', hP, hik⟩ := t.next
      simp only at hka
      subst hka
      have hlt : (i : Int) < (k.len : Int) := by omega
      have hC := fun W (y : Ext wr W) => hP W f2 a2 (hO2.ext y) (hK2.ext y) hms2 hkl2 hz2'
      obtain ⟨kind2, ka2, kn2, kc2, desc2, value2, start2, ma2, mn2, mc2, fin2, rule2, dn2⟩ := f2
      have e0 := hc9 0 (by simp [F9.arr])
      have e1 := hc9 1 (by simp [F9.arr])
      have e2 := hc9 2 (by simp [F9.arr])
      have e3 := hc9 3 (by simp [F9.arr])
      have e4 := hc9 4 (by simp [F9.arr])
      have e5 := hc9 5 (by simp [F9.arr])
      have e6 := hc9 6 (by simp [F9.arr])
      have e7 := hc9 7 (by simp [F9.arr])
      have e8 := hc9 8 (by simp [F9.arr])
      simp only [F9.arr, List.getElem_toArray, List.getElem_cons_zero, List.getElem_cons_succ, Nat.add_zero] at e0 e1 e2 e3 e4 e5 e6 e7 e8 hC
      rw [show o0 + 9 * i = o0 + i * 9 by omega] at e0 e1 e2 e3 e4 e5 e6 e7 e8
      have hC := hC wr (Ext.refl wr)
      obtain ⟨gm, rfl⟩ : ∃ gm, gk = gm + 1 := ⟨gk - 1, by simp only [FT.len] at hql; omega⟩
      have hq2 : Hid (r.len < gm) := by show _ < _; simp only [FT.len] at hql; omega
      have hfb : fs.length ≤ 900000000000 := by have := t.len.1; omega
      clear hc9 hO2 hK2 hms2 hP hql hq
      go_wp2_with fail
      go_at_call 18
      refine hC.mono ?_
      rintro _ w5 ⟨f5, rfl, y5, hk5⟩
      obtain ⟨kind5, ka5, kn5, kc5, desc5, value5, start5, ma5, mn5, mc5, fin5, rule5, dn5⟩ := f5
      simp only
      have r5 : RowF w5 (fun b => b = g) (.slice (some ⟨g, 0, none⟩) fs.length c) fs := Row.ext t.row y5
      clear hC e0 e1 e2 e3 e4 e5 e6 e7 e8 c0 c1 c2 c3 c4 c5 c6 c7 c8
      go_wp2_with (at_builtin; refine Hid.out ?_)
      refine wpList_fltB rfl _ _ rfl w5 _ _ fs ⟨kind5, ka5, kn5, kc5, desc5, value5, start5, ma5, mn5, mc5, fin5, rule5, dn5⟩ _ rfl r5 rfl _ rfl rfl (by omega) ?_
      intro g6 c6 w6 r6 o6
      have t6 := t.push y5 hk5 r6 o6
      clear r5 r6 o6 t hk5 y5
      go_wp2
      go_roundg gm
      case measure => omega
      case rel => exact ⟨i + 1, r, g6, c6, _, by simp, rfl, hq2, t6⟩
    | nil =>
      have hik : ¬ (i : Int) < (k.len : Int) := by have := t.len.2; simp only [FT.len] at this; omega
      have hfb : fs.length ≤ 900000000000 := by have := t.len.1; have := t.len.2; simp only [FT.len] at this; omega
      clear hq hql
      go_wp2_with (at_builtin; refine Hid.out ?_)
      refine wpList_fltB rfl _ _ rfl wr _ _ fs ⟨0, none, 0, 0, spareS, ⟨#[]⟩, ⟨#[]⟩, none, 0, 0, ⟨#[]⟩, ⟨#[]⟩, false⟩ _ rfl t.row rfl _ rfl rfl hfb ?_
      intro g6 cc6 w6 r6 o6
      obtain ⟨hlen, e6, q1, qz, q3, hg6, hc6, hW⟩ := t.done rfl r6 o6
      have hg6l : g6 < w6.heap.size := Row.lt r6 (by simp [own, Value.ownBlock])
      rw [hlen]
      clear r6 o6 t c0 c1 c2 c3 c4 c5 c6 c7 c8 hik hfb hlen
      obtain ⟨c0, c1, c2, c3, c4, c5, c6, c7, c8, -⟩ := q1.cells
      obtain ⟨d0, d1, d2, d3, d4, d5, d6, d7, d8, dz⟩ := q3.cells
      simp only at c0 c1 c2 c3 c4 c5 c6 c7 c8 d0 d1 d2 d3 d4 d5 d6 d7 d8
      rw [← hHSh.out] at c0 c1 c2 c3 c4 c5 c6 c7 c8 d0 d1 d2 d3 d4 d5 d6 d7 d8 dz
      have dz1 := dz 1
      have hle : k.len ≤ cc6 := by omega
      clear dz
      go_upto_region 10 with fail
      have f7 := q3.set1 (some ⟨g6, 0, none⟩) k.len cc6
      have o7 := setOnly w6 (w.heap.size + 2) 1 (.slice (some ⟨g6, 0, none⟩) k.len cc6)
      have p1 := q1.only o7 (by omega)
      have pz := qz.only o7 (by omega)
      have e7 := e6.then o7 (fun b hb => by omega)
      have hs67 : w6.heap.size ≤ (w6.setCell ⟨w.heap.size + 2, 1, none⟩ (.slice (some ⟨g6, 0, none⟩) k.len cc6)).heap.size := o7.size
      have hW7 : Hid (∀ W : World, (∀ b, w.heap.size + 3 ≤ b → b < (w6.setCell ⟨w.heap.size + 2, 1, none⟩ (.slice (some ⟨g6, 0, none⟩) k.len cc6)).heap.size → W.heap[b]? = (w6.setCell ⟨w.heap.size + 2, 1, none⟩ (.slice (some ⟨g6, 0, none⟩) k.len cc6)).heap[b]?) → (k.len ≤ cc6 ∧ cc6 ≤ maxLen ∧ (k.len = 0 ∨ ∃ g' o', (some ⟨g6, 0, none⟩ : Option Addr) = some ⟨g', o', none⟩ ∧ FtCells W k g' o')) ∧ W.cell? ⟨g6, k.len * 9 + 2, none⟩ = some (.string spareS) ∧ SpC W k g6 0) := fun W h => hW W (fun b h1 h2 => (h b h1 (Nat.lt_of_lt_of_le h2 hs67)).trans (o7.block b h2 (by omega)))
      rw [← hHSh.out] at f7 o7 p1 pz e7 hs67 hW7
      clear hW q1 qz q3 e6 c0 c1 c2 c3 c4 c5 c6 c7 c8 d0 d1 d2 d3 d4 d5 d6 d7 d8 dz1 o7
      generalize w6.setCell _ _ = w7 at f7 p1 pz e7 hs67 hW7 ⊢
      obtain ⟨c0, c1, c2, c3, c4, c5, c6, c7, c8, -⟩ := p1.cells
      simp only at c0 c1 c2 c3 c4 c5 c6 c7 c8
      have hsl7 : Hid (HS + 3 ≤ w7.heap.size) := by show _ ≤ _; rw [← hHSh.out] at hg6; omega
      go_wp2_with (first
        | (at_make; refine wpList_make_own _ rfl _ _ 25 rfl w7.heap.size 9 j0 _ 1 Tryz.underlying25 hj0 hy0 hy1 .i64 .i64 _ (a.ms.length + 1) rfl rfl ?c1 ?c2 ?c3 ?c4 ?_))
      case c2 => omega
      case c3 => unfold maxLen; omega
      intro w8 hown0 hgrow0
      have x8 : Ext w7 w8 := (Below.refl _ _).grown hgrow0 (Nat.le_refl _) (fun k hk => by cases hk)
      have r8 : RowS w8 (fun b => b = w7.heap.size) (.slice (some ⟨w7.heap.size, 0, none⟩) 0 (a.ms.length + 1)) [] := by
        refine ⟨⟨by simp, ?_⟩, fun k hk => (Option.some.inj hk).symm⟩
        rcases hown0.2 with ⟨e, _⟩ | ⟨g', c', cur, e, _, h3, h4, h5, h6, _⟩
        · cases e
        · exact .inr ⟨g', c', cur, e, Nat.zero_le _, h3, h4, h5, h6, by simp⟩
      have hsrc : SSl w8 (.slice ma a.ms.length mc) a.ms := hOh.out.mids.ext (e7.trans x8)
      obtain ⟨g9, c9, w9, hr, r9, o9⟩ := app_texts 25 r8 hsrc hms
      have e8 := e7.trans x8
      clear hown0 hgrow0 hsrc r8
      have cc1 := x8.cell c5
      clear c0 c1 c2 c3 c4 c5 c6 c7 c8
      go_wp2_with (at_builtin; refine Hid.out ?_)
      refine Lib.wpList_append_run _ rfl _ _ _ _ rfl _ _ rfl rfl _ _ hr ?_
      have e9 : Ext w w9 := e8.then o9 (fun b hb => by have := hsl7.out; have := hHSh.out; omega)
      have hs79 : w7.heap.size ≤ w9.heap.size := Nat.le_trans x8.size o9.size
      have k79 : ∀ b, b < w7.heap.size → w9.heap[b]? = w7.heap[b]? := fun b hb => (o9.block b (Nat.lt_of_lt_of_le hb x8.size) (by omega)).trans (x8.block b hb)
      have r9' : RowS w9 (fun b => w7.heap.size ≤ b) (.slice (some ⟨g9, 0, none⟩) a.ms.length c9) a.ms := Row.wide r9 (fun b hb => hb.elim (fun h => by omega) (fun h => Nat.le_trans x8.size h))
      clear hr r9 o9 x8 e8 cc1
      go_wp2_with (at_builtin; refine Hid.out ?_)
      refine wpList_strB rfl _ _ rfl w9 _ _ a.ms spareS r9' rfl _ rfl rfl hms ?_
      intro g10 c10 w10 r10 o10
      have e10 : Ext w w10 := e9.then o10 (fun b hb => by have := hsl7.out; have := hHSh.out; omega)
      have k10 : ∀ b, b < w7.heap.size → w10.heap[b]? = w7.heap[b]? := fun b hb => (o10.block b (Nat.lt_of_lt_of_le hb hs79) (by omega)).trans (k79 b hb)
      have hs10 : w7.heap.size ≤ w10.heap.size := Nat.le_trans hs79 o10.size
      have hg10 : w7.heap.size ≤ g10 ∧ g10 < w10.heap.size := ⟨(r10.2 g10 (by simp [Value.ownBlock])).elim (fun h => h) (fun h => Nat.le_trans hs79 h), Row.lt r10 (by simp [own, Value.ownBlock])⟩
      have hc10 := (tw_mids r10).2.1
      have hmm : ∀ W : World, W.heap[g10]? = w10.heap[g10]? → SSl W (.slice (some ⟨g10, 0, none⟩) a.ms.length c10) a.ms ∧ a.ms.length + 1 ≤ c10 ∧ c10 ≤ maxLen ∧ W.cell? ⟨g10, a.ms.length, none⟩ = some (.string spareS) := fun W hW => tw_mids (Row.alike r10 (fun b hb => by
        have : b = g10 := by simpa [own, Value.ownBlock, eq_comm] using hb
        subst this
        exact hW))
      have f10 : FlT w10 (HS + 2) _ := (k10 (HS + 2) (by have := hsl7.out; omega)).trans f7
      have p10 : FlT w10 HS _ := (k10 HS (by have := hsl7.out; omega)).trans p1
      have z10 : FlT w10 (HS + 1) _ := (k10 (HS + 1) (by have := hsl7.out; omega)).trans pz
      obtain ⟨c0, c1, c2, c3, c4, c5, c6, c7, c8, -⟩ := p10.cells
      obtain ⟨d0, d1, d2, d3, d4, d5, d6, d7, d8, dz⟩ := f10.cells
      simp only at c0 c1 c2 c3 c4 c5 c6 c7 c8 d0 d1 d2 d3 d4 d5 d6 d7 d8
      have dz5 := dz 5
      have hle2 : a.ms.length ≤ c10 := by omega
      clear r10 o10 e9 r9' k79 f7 p1 pz dz
      go_upto_region 14 with fail
      have f11 := f10.set5 (some ⟨g10, 0, none⟩) a.ms.length c10
      have o11 := setOnly w10 (HS + 2) 5 (.slice (some ⟨g10, 0, none⟩) a.ms.length c10)
      have z11 := z10.only o11 (by omega)
      have e11 := e10.then o11 (fun b hb => by have := hHSh.out; omega)
      have k11 : ∀ b, HS + 3 ≤ b → b < w10.heap.size → (w10.setCell ⟨HS + 2, 5, none⟩ (.slice (some ⟨g10, 0, none⟩) a.ms.length c10)).heap[b]? = w10.heap[b]? := fun b h1 h2 => o11.block b h2 (by omega)
      have hs11 : w10.heap.size ≤ (w10.setCell ⟨HS + 2, 5, none⟩ (.slice (some ⟨g10, 0, none⟩) a.ms.length c10)).heap.size := o11.size
      clear f10 p10 z10 o11 c0 c1 c2 c3 c4 c5 c6 c7 c8 d0 d1 d2 d3 d4 d5 d6 d7 d8 dz5 e10
      generalize w10.setCell _ _ = w11 at f11 z11 e11 k11 hs11 ⊢
      have hTw : TwK (fun b => HS + 3 ≤ b ∧ b < w11.heap.size) w11 ⟨kind, some ⟨g6, 0, none⟩, k.len, cc6, desc, value, start, some ⟨g10, 0, none⟩, a.ms.length, c10, fin, rule, dn⟩ a k := by
        intro W hW
        have hO := hOh.out
        obtain ⟨u1, u2, u3, u4, u5⟩ := hO.ok
        have hs7 := hsl7.out
        have a10 : ∀ b, HS + 3 ≤ b → b < w10.heap.size → W.heap[b]? = w10.heap[b]? := fun b h1 h2 => (hW b ⟨h1, Nat.lt_of_lt_of_le h2 hs11⟩).trans (k11 b h1 h2)
        obtain ⟨⟨q1, q2, q3⟩, q4, q5⟩ := hW7.out W (fun b h1 h2 => (a10 b h1 (Nat.lt_of_lt_of_le h2 hs10)).trans (k10 b h2))
        obtain ⟨m1, m2, m3, m4⟩ := hmm W (a10 g10 (by omega) hg10.2)
        exact ⟨⟨⟨hO.kind, hO.desc, hO.value, hO.start, hO.fin, hO.rule, hO.dn, ⟨u1, u2, u3, u4, u5⟩, m1, hO.small, hO.rng⟩, rfl, q1, q2, q3⟩, ⟨⟨g6, rfl, rfl, hc6, q2, q4⟩, g10, rfl, m2, m3, m4⟩, fun g' e => by cases e; exact q5⟩
      rw [hHSh.out] at hTw z11
      have hend : Hid _ := twin_end e11 z11 hTw
      obtain ⟨d0, d1, d2, d3, d4, d5, d6, d7, d8, -⟩ := f11.cells
      simp only at d0 d1 d2 d3 d4 d5 d6 d7 d8
      obtain ⟨j0, j1, j2, j3, j4, j5, j6, j7, j8, dz⟩ := z11.cells
      rw [← hHSh.out] at j0 j1 j2 j3 j4 j5 j6 j7 j8 dz
      have dz0 := dz 0
      have dz1 := dz 1
      have dz2 := dz 2
      have dz3 := dz 3
      have dz4 := dz 4
      have dz5 := dz 5
      have dz6 := dz 6
      have dz7 := dz 7
      have dz8 := dz 8
      clear hTw hmm k11 hs11 e11 z11 f11 dz k10
      go_wp2
      rw [hHSh.out]
      exact hend.out _ (by rw [← hHSh.out]; rfl)
theorem twin_all : ∀ k : FT, TwinA k
  | .nil => trivial
  | .cons _ k r => ⟨twin_step k (twin_all k), twin_all r⟩
theorem twin_any (k : FT) : TwinP k := twin_step k (twin_all k)
end Go.Proofs.YtdcfiphffbgocaaGreatDoor
