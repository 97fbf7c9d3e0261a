/-
  'append' to a row: what it leaves of the row itself.
-/
import Derived.Test.YtfiijlmpfpmgiaaGreatDoorNkdToNmv2
import Derived.Laws.OwnMore
import Derived.Test.YtfiijlmpfpmgiaaGreatDoorStwinToXpush
import Derived.Deep.RegionHeld3
import Derived.Deep.RegionWith
import Derived.BigQuiet
import Derived.Shelf.RegionOpenPlain
namespace Go.Proofs.YtfiijlmpfpmgiaaGreatDoor
open Go.RowKit

theorem run_append_keep (w : World) (t e tx ty : TypeId) (z : Value) (sz bytes : Nat) (hi : (Tryz.prog.info? e).map (fun i => (i.zero, i.size, i.bytes)) = some (some z, sz, bytes)) (ht : Tryz.prog.underlying t = some (.slice e)) (hzs : z.cells.size = sz)
    (v : Value) (n : Nat) (xs : List Value) (hrow : Row w (own v) e sz v n xs) (x : Value) (m : Nat) (hm : 0 < m) (news : List Value) (hs : Src Tryz.prog sz tx x m news w) (h63 : n + m ≤ maxLen) (hb : (n + m) * bytes ≤ 140737488355328) :
    ∃ g cap w', (Builtin.append_ #[t, tx] ty #[v, x]).run Tryz.prog w = .ok (.slice (some ⟨g, 0, none⟩) (n + m) cap) w' ∧ Row w' (Up (own v) w.heap.size) e sz (.slice (some ⟨g, 0, none⟩) (n + m) cap) (n + m) (xs ++ news) ∧ Only (own v) w w' ∧
      (∀ b j u, (own v b → j < n * sz) → w.cell? ⟨b, j, none⟩ = some u → w'.cell? ⟨b, j, none⟩ = some u) := by
  obtain ⟨i, hi0, hz, hsz, hby⟩ := info_parts hi
  have hsl : news.length = m * sz := hs.newsLen
  have hxl : xs.length = n * sz := hrow.1.1
  have h63' : ((n + m : Nat) : Int) ≤ 9223372036854775807 := by unfold maxLen at h63; omega
  rw [← hsz] at hs
  have grow : ∀ (base : Option Addr) (cap : Nat), v = .slice base n cap → cap < n + m → (Builtin.firstCells i.size n (.slice base n cap)).run Tryz.prog w.drew = .ok xs.toArray w.drew →
      ∃ g cap w', (Builtin.append_ #[t, tx] ty #[v, x]).run Tryz.prog w = .ok (.slice (some ⟨g, 0, none⟩) (n + m) cap) w' ∧ Row w' (Up (own v) w.heap.size) e sz (.slice (some ⟨g, 0, none⟩) (n + m) cap) (n + m) (xs ++ news) ∧ Only (own v) w w' ∧
      (∀ b j u, (own v b → j < n * sz) → w.cell? ⟨b, j, none⟩ = some u → w'.cell? ⟨b, j, none⟩ = some u) := by
    intro base cap hv hc hold
    subst hv
    have hr := run_append_grow_src (P := Tryz.prog) w t tx ty e i z ht hi0 hz base n cap xs hold x m news hs hc h63' (by rw [hby]; exact growslice_fits hc hb)
    have hge := grownCap_ge w (n + m) cap e
    refine ⟨_, _, _, hr, ⟨⟨by rw [List.length_append, hxl, hsl, Nat.add_mul], .inr ⟨w.heap.size, _, _, rfl, Nat.zero_le _, heap_alloc_new w.drew _, hge, grownCap_le_maxLen w (n + m) cap e h63, ?_, ?_⟩⟩, fun k hk => ?_⟩, (Only.refl _ w).drew.alloc _, fun b j u _ hc => ((Ext.refl w).drew.alloc _).cell hc⟩
    · simp only [Builtin.zeroCells, Array.size_append, List.size_toArray, List.length_append, hxl, hsl]
      rw [Array.size_map, Array.size_range, hzs, ← Nat.add_mul, ← Nat.add_mul, Nat.add_sub_cancel' hge]
    · simp only [Array.toList_append]
      rw [List.take_append_of_le_length (by rw [List.length_append, hxl, hsl, ← Nat.add_mul]; exact Nat.le_refl _), List.take_of_length_le (by rw [List.length_append, hxl, hsl, ← Nat.add_mul]; exact Nat.le_refl _)]
    · simp only [Value.ownBlock, Option.some.injEq] at hk
      exact .inr (by omega)
  rcases hrow.1.2 with ⟨rfl, rfl⟩ | ⟨g, cap, cur, rfl, _, hg, hnc, hcm, hcs, htk⟩
  · have hxs : xs = [] := List.eq_nil_of_length_eq_zero (by simpa using hxl)
    subst hxs
    exact grow none 0 rfl (by omega) (run_firstCells_none w.drew i.size 0 0 0)
  · have hcell : ∀ j u, xs[j]? = some u → w.cell? ((⟨g, 0, none⟩ : Addr).add j) = some u := World.ownsRow.cells hrow.1 rfl
    by_cases hroom : n + m ≤ cap
    · have hcur : cur.size = cap * sz := hcs
      have hle : n * sz + m * sz ≤ cap * sz := by rw [← Nat.add_mul]; exact Nat.mul_le_mul_right _ hroom
      have hr := run_append_room_src (P := Tryz.prog) w t tx ty e i ht hi0 g 0 n cap x m news hs hroom
        (fun j hj => by
          rw [hsz, hsl] at *
          rw [cell_of_row w g _ cur e (0, 0) hg, Array.getElem?_eq_getElem (by omega)]; rfl)
        (fun j hj => by simp [World.frozen?, hg])
      rw [hsz] at hr
      have hh := heap_setCells_at g e (0, 0) news (0 + n * sz) w cur.toList hg (by rw [hsl]; simp; omega)
      have ho : Only (own (.slice (some ⟨g, 0, none⟩) n cap)) w (w.setCells g (0 + n * sz) news) := Only.setCells w g _ news (hrow.2 g rfl)
      refine ⟨g, cap, _, hr, ⟨⟨by rw [List.length_append, hxl, hsl, Nat.add_mul], .inr ⟨g, cap, _, rfl, Nat.zero_le _, hh, by omega, hcm, ?_, ?_⟩⟩, fun k hk => ?_⟩, ho, fun b j u hj hc => ?_⟩
      · simp [hsl]; omega
      · simp only [Nat.zero_add, htk]
        rw [List.take_append_of_le_length (by rw [List.length_append, hxl, hsl, ← Nat.add_mul]; exact Nat.le_refl _), List.take_of_length_le (by rw [List.length_append, hxl, hsl, ← Nat.add_mul]; exact Nat.le_refl _)]
      · simp only [Value.ownBlock, Option.some.injEq] at hk
        exact .inl (hrow.2 k (by simp [Value.ownBlock, hk]))
      · by_cases hbg : b = g
        · subst hbg
          have hj' := hj rfl
          rw [cell_of_row w b _ cur e (0, 0) hg] at hc
          rw [cell_of_row _ b _ _ e (0, 0) hh]
          simp only [Nat.zero_add, htk, List.append_assoc, List.getElem?_toArray]
          rw [List.getElem?_append_left (by omega), ← htk, List.getElem?_take, if_pos hj', Array.getElem?_toList]
          exact hc
        · exact ho.cell hc (fun h => hbg (by simpa [own, Value.ownBlock] using h.symm))
    · refine grow (some ⟨g, 0, none⟩) cap rfl (by omega) ?_
      rw [hsz]
      exact run_firstCells_some w.drew sz n ⟨g, 0, none⟩ n cap xs hxl hcell
end Go.Proofs.YtfiijlmpfpmgiaaGreatDoor

/-
  What rosterlaw06.spoil makes of a name in memory of its own, step by step.
-/
namespace Go.Proofs.YtfiijlmpfpmgiaaGreatDoor
open Go.RowKit

/-- the blocks of a name in memory of its own -/
def footN (v : Value) (us : List Value) (b : Nat) : Prop := own v b ∨ ∃ (i : Nat) (h : i < us.length), own us[i] b
/-- the parts lie apart -/
def ApN (us : List Value) : Prop := ∀ i j (h : i < us.length) (h' : j < us.length), i ≠ j → ∀ b, own us[i] b → ¬ own us[j] b
theorem Row.set2 {w : World} {S : Nat → Prop} {e : TypeId} {g n cap : Nat} {xs : List Value} (h : Row w S e 2 (.slice (some ⟨g, 0, none⟩) n cap) n xs) (j1 j2 : Nat) (a b : Value) :
    Row ((w.setCell ⟨g, j1, none⟩ a).setCell ⟨g, j2, none⟩ b) S e 2 (.slice (some ⟨g, 0, none⟩) n cap) n ((xs.set j1 a).set j2 b) :=
  ⟨(World.ownsRow.stored (World.ownsRow.stored h.1 j1 a).1 j2 b).1, h.2⟩
theorem row_cellS {w : World} {S : Nat → Prop} {e : TypeId} {sz : Nat} {v : Value} {n : Nat} {xs : List Value} (h : Row w S e sz v n xs) (hn : 0 < n) : ∃ g cap, v = .slice (some ⟨g, 0, none⟩) n cap ∧ n ≤ cap ∧ cap ≤ maxLen ∧ (∀ j u, xs[j]? = some u → w.cell? ⟨g, j, none⟩ = some u) ∧ ∀ j, w.frozen? ⟨g, j, none⟩ = false := by
  have hc := fun g hg => World.ownsRow.cells h.1 (g := g) hg
  rcases h.1.2 with ⟨_, h0⟩ | ⟨g, cap, cur, rfl, _, hg, h1, h2, h3, _⟩
  · omega
  · refine ⟨g, cap, rfl, h1, h2, fun j u hu => ?_, fun j => by simp [World.frozen?, hg]⟩
    have := hc g rfl j _ hu
    rwa [Addr.add_lit, Nat.zero_add] at this
/-- the first k parts are marked, the k-th up to q -/
structure Mk1 (mk : Nat → ByteArray) (w wr : World) (v : Value) (us : List Value) (pts : List (List Av)) (k q : Nat) : Prop where
  row : Row wr (own v) 45 1 v us.length us
  new : ∀ i (h : i < us.length) (h' : i < pts.length), ∃ xs, Row wr (own us[i]) 48 2 us[i] pts[i].length xs ∧ (i < k → ∀ j, j < pts[i].length → xs[j * 2]? = some (.string (mk i))) ∧ (i = k → ∀ j, j < q → xs[j * 2]? = some (.string (mk i)))
  on : Only (footN v us) w wr
theorem Mk1.start {mk : Nat → ByteArray} {w : World} {B : Nat} {v : Value} {us : List Value} {pts : List (List Av)} (h : NmOwn w B v pts us) : Mk1 mk w w v us pts 0 0 :=
  ⟨h.row.min, fun i a b => ⟨_, (h.new i a b).min, fun h => by omega, fun _ j hj => by omega⟩, Only.refl _ _⟩
theorem Mk1.ext {mk : Nat → ByteArray} {w wr w' : World} {v : Value} {us : List Value} {pts : List (List Av)} {k q : Nat} (h : Mk1 mk w wr v us pts k q) (x : Ext wr w') : Mk1 mk w w' v us pts k q :=
  ⟨h.row.ext x, fun i a b => by obtain ⟨xs, h1, h2, h3⟩ := h.new i a b; exact ⟨xs, h1.ext x, h2, h3⟩, h.on.ext x⟩
theorem Mk1.put {mk : Nat → ByteArray} {w wr : World} {v : Value} {us : List Value} {pts : List (List Av)} {k q g cap : Nat} (h : Mk1 mk w wr v us pts k q) (hap : ApN us) (hk : k < us.length) (hkp : k < pts.length) (hq : q < pts[k].length) (hg : us[k] = .slice (some ⟨g, 0, none⟩) pts[k].length cap) (u : Value) :
    Mk1 mk w ((wr.setCell ⟨g, q * 2, none⟩ (.string (mk k))).setCell ⟨g, q * 2 + 1, none⟩ u) v us pts k (q + 1) := by
  have hgo : own us[k] g := by rw [hg]; rfl
  have O : Only (own us[k]) wr ((wr.setCell ⟨g, q * 2, none⟩ (.string (mk k))).setCell ⟨g, q * 2 + 1, none⟩ u) := ((Only.refl _ wr).setCell (.inl hgo) _).setCell (.inl hgo) _
  obtain ⟨xk, hxk, m1, m2⟩ := h.new k hk hkp
  refine ⟨h.row.kept O (fun b h1 h2 => row_apart h.row hxk (by decide) b h1 h2), fun i a b => ?_, h.on.then (O.mono fun b _ hb => .inr ⟨k, hk, hb⟩)⟩
  by_cases e : i = k
  · subst e
    have hl := hxk.1.1
    rw [hg] at hxk
    refine ⟨(xk.set (q * 2) (.string (mk i))).set (q * 2 + 1) u, ?_, fun h => by omega, fun _ j hj => ?_⟩
    · rw [hg]; exact hxk.set2 _ _ _ _
    · rw [List.getElem?_set_ne (by omega)]
      by_cases e2 : j = q
      · subst e2
        rw [List.getElem?_set_self (by omega)]
      · rw [List.getElem?_set_ne (by omega)]
        exact m2 rfl j (by omega)
  · obtain ⟨xi, hxi, n1, n2⟩ := h.new i a b
    exact ⟨xi, hxi.kept O (fun b h1 h2 => hap i k a hk e b h1 h2), n1, fun h => absurd h e⟩
theorem Mk1.next {mk : Nat → ByteArray} {w wr : World} {v : Value} {us : List Value} {pts : List (List Av)} {k : Nat} (hkp : k < pts.length) (h : Mk1 mk w wr v us pts k pts[k].length) : Mk1 mk w wr v us pts (k + 1) 0 := by
  refine ⟨h.row, fun i a b => ?_, h.on⟩
  obtain ⟨xi, hxi, n1, n2⟩ := h.new i a b
  refine ⟨xi, hxi, fun hi => ?_, fun _ j hj => by omega⟩
  by_cases e : i = k
  · subst e; exact n2 rfl
  · exact n1 (by omega)
/-- all are marked; the parts from k on have not grown -/
structure Mk2 (mk : Nat → ByteArray) (w wr : World) (v : Value) (us : List Value) (pts : List (List Av)) (k : Nat) : Prop where
  row : Row wr (own v) 45 1 v us.length us
  new : ∀ i (h : i < us.length) (h' : i < pts.length), k ≤ i → ∃ xs, Row wr (own us[i]) 48 2 us[i] pts[i].length xs
  cel : ∀ i (h : i < us.length) (h' : i < pts.length) j, j < pts[i].length → ∃ g c, us[i] = .slice (some ⟨g, 0, none⟩) pts[i].length c ∧ pts[i].length ≤ c ∧ wr.cell? ⟨g, j * 2, none⟩ = some (.string (mk i))
  on : Only (footN v us) w wr
theorem Mk2.ext {mk : Nat → ByteArray} {w wr w' : World} {v : Value} {us : List Value} {pts : List (List Av)} {k : Nat} (h : Mk2 mk w wr v us pts k) (x : Ext wr w') : Mk2 mk w w' v us pts k :=
  ⟨h.row.ext x, fun i a b hi => by obtain ⟨xs, h1⟩ := h.new i a b hi; exact ⟨xs, h1.ext x⟩, fun i a b j hj => by obtain ⟨g, c, h1, h2, h3⟩ := h.cel i a b j hj; exact ⟨g, c, h1, h2, x.cell h3⟩, h.on.ext x⟩
theorem Mk1.done {mk : Nat → ByteArray} {w wr : World} {v : Value} {us : List Value} {pts : List (List Av)} {k : Nat} (h : Mk1 mk w wr v us pts k 0) (hk : us.length ≤ k) : Mk2 mk w wr v us pts 0 := by
  refine ⟨h.row, fun i a b _ => ?_, fun i a b j hj => ?_, h.on⟩
  · obtain ⟨xi, hxi, _⟩ := h.new i a b; exact ⟨xi, hxi⟩
  · obtain ⟨xi, hxi, n1, _⟩ := h.new i a b
    obtain ⟨g, c, e, h1, _, h3, _⟩ := row_cellS hxi (by omega)
    exact ⟨g, c, e, h1, h3 _ _ (n1 (by omega) j hj)⟩
/-- the list l has come of the k-th part -/
structure Mk3 (mk : Nat → ByteArray) (w wr : World) (v : Value) (us : List Value) (pts : List (List Av)) (k : Nat) (l : Value) (m : Nat) : Prop extends Mk2 mk w wr v us pts (k + 1) where
  lrow : ∃ xs, Row wr (own l) 48 2 l m xs
  lown : ∀ (hk : k < us.length) b, own l b → own us[k] b ∨ w.heap.size ≤ b
  llen : ∀ (hk : k < pts.length), pts[k].length ≤ m
theorem Mk2.start {mk : Nat → ByteArray} {w wr : World} {v : Value} {us : List Value} {pts : List (List Av)} {k : Nat} (h : Mk2 mk w wr v us pts k) (hk : k < us.length) (hkp : k < pts.length) : Mk3 mk w wr v us pts k us[k] pts[k].length :=
  ⟨⟨h.row, fun i a b hi => h.new i a b (by omega), h.cel, h.on⟩, h.new k hk hkp (Nat.le_refl _), fun _ b hb => .inl hb, fun _ => Nat.le_refl _⟩
def moreS : ByteArray := ⟨#[109, 111, 114, 101]⟩
theorem Mk3.push {mk : Nat → ByteArray} {w wr : World} {v : Value} {us : List Value} {pts : List (List Av)} {k : Nat} {l : Value} {m : Nat} (h : Mk3 mk w wr v us pts k l m) (hk : k < us.length) (hkp : k < pts.length) (hap : ApN us) (hlt : ∀ b, footN v us b → b < w.heap.size) (hm : m ≤ 1000000000) (ty : TypeId) :
    ∃ g cap w', (Builtin.append_ #[43, 43] ty #[l, .slice (some ⟨wr.heap.size, 0, none⟩) 1 1]).run Tryz.prog (wr.alloc (.cells #[.string ⟨#[109, 111, 114, 101]⟩, .string ⟨#[]⟩] 48)) = .ok (.slice (some ⟨g, 0, none⟩) (m + 1) cap) w' ∧
      Mk3 mk w w' v us pts k (.slice (some ⟨g, 0, none⟩) (m + 1) cap) (m + 1) := by
  obtain ⟨xs, hl⟩ := h.lrow
  have x1 : Ext wr (wr.alloc (.cells #[.string ⟨#[109, 111, 114, 101]⟩, .string ⟨#[]⟩] 48)) := (Ext.refl wr).alloc _
  have hs : Src Tryz.prog 2 43 (.slice (some ⟨wr.heap.size, 0, none⟩) 1 1) 1 [.string ⟨#[109, 111, 114, 101]⟩, .string ⟨#[]⟩] (wr.alloc (.cells #[.string ⟨#[109, 111, 114, 101]⟩, .string ⟨#[]⟩] 48)) :=
    Src.ofSlice _ Tryz.underlying43 ⟨wr.heap.size, 0, none⟩ 1 1 _ (by simp) (fun j u hu => by
      rw [Addr.add_lit, Nat.zero_add, cell_of_row _ wr.heap.size j _ _ _ (heap_alloc_new wr _)]; simpa using hu) (by simp [Value.oneCell'])
  obtain ⟨g, cap, w', hr, r', o', kp⟩ := run_append_keep _ 43 48 43 ty _ 2 32 infoAva Tryz.underlying43 rfl l m xs (hl.ext x1) _ 1 (by decide) _ hs (by unfold maxLen; omega) (by omega)
  have o2 : Only (own l) wr w' := (x1.only (S := own l)).then o'
  have hso := h.on.size
  have hfoot : ∀ b, own l b → Up (footN v us) w.heap.size b := fun b hb => (h.lown hk b hb).elim (fun h1 => .inl (.inr ⟨k, hk, h1⟩)) (fun h1 => .inr h1)
  refine ⟨g, cap, w', hr, ⟨⟨?_, fun i a b hi => ?_, fun i a b j hj => ?_, ?_⟩, ⟨_, r'.min⟩, fun _ b hb => ?_, fun _ => Nat.le_succ_of_le (h.llen hkp)⟩⟩
  · exact h.row.kept o2 (fun b h1 h2 => row_apart h.row hl (by decide) b h1 h2)
  · obtain ⟨xi, hxi⟩ := h.new i a b hi
    refine ⟨xi, hxi.kept o2 (fun b h1 h2 => ?_)⟩
    rcases h.lown hk b h2 with h3 | h3
    · exact hap i k a hk (by omega) b h1 h3
    · have := hlt b (.inr ⟨i, a, h1⟩); omega
  · obtain ⟨gi, c, e, h1, h2⟩ := h.cel i a b j hj
    refine ⟨gi, c, e, h1, kp _ _ _ (fun ho => ?_) (x1.cell h2)⟩
    have hoi : own us[i] gi := by rw [e]; rfl
    rcases h.lown hk gi ho with h3 | h3
    · have : i = k := Classical.byContradiction fun hne => hap i k a hk hne gi hoi h3
      subst this
      have := h.llen hkp
      omega
    · have := hlt gi (.inr ⟨i, a, hoi⟩); omega
  · exact h.on.trans (o2.mono fun b _ hb => hfoot b hb)
  · rcases r'.2 b hb with h1 | h1
    · exact h.lown hk b h1
    · have : wr.heap.size ≤ b := Nat.le_trans x1.size h1
      exact .inr (by omega)
/-- the list of parts has come of the name's -/
structure Mk4 (w wr : World) (v : Value) (us : List Value) (l : Value) (m : Nat) : Prop where
  lrow : ∃ xs, Row wr (own l) 45 1 l m xs
  lown : ∀ b, own l b → own v b ∨ w.heap.size ≤ b
  on : Only (footN v us) w wr
theorem Mk2.all {mk : Nat → ByteArray} {w wr : World} {v : Value} {us : List Value} {pts : List (List Av)} {k : Nat} (h : Mk2 mk w wr v us pts k) : Mk4 w wr v us v us.length := ⟨⟨_, h.row⟩, fun _ hb => .inl hb, h.on⟩
theorem Mk4.push {w wr : World} {v : Value} {us : List Value} {l : Value} {m : Nat} (h : Mk4 w wr v us l m) (hm : m ≤ 1000000000) (ty : TypeId) :
    ∃ g cap w', (Builtin.append_ #[22, 22] ty #[l, .slice (some ⟨wr.heap.size, 0, none⟩) 1 1]).run Tryz.prog (wr.alloc (.cells #[.slice none 0 0] 45)) = .ok (.slice (some ⟨g, 0, none⟩) (m + 1) cap) w' ∧ Mk4 w w' v us (.slice (some ⟨g, 0, none⟩) (m + 1) cap) (m + 1) := by
  obtain ⟨xs, hl⟩ := h.lrow
  have x1 : Ext wr (wr.alloc (.cells #[.slice none 0 0] 45)) := (Ext.refl wr).alloc _
  have hs : Src Tryz.prog 1 22 (.slice (some ⟨wr.heap.size, 0, none⟩) 1 1) 1 [.slice none 0 0] (wr.alloc (.cells #[.slice none 0 0] 45)) :=
    Src.ofSlice _ Tryz.underlying22 ⟨wr.heap.size, 0, none⟩ 1 1 _ (by simp) (fun j u hu => by
      rw [Addr.add_lit, Nat.zero_add, cell_of_row _ wr.heap.size j _ _ _ (heap_alloc_new wr _)]; simpa using hu) (by simp [Value.oneCell'])
  obtain ⟨g, cap, w', hr, r', o'⟩ := run_append_rowS _ (own l) 22 45 22 ty _ 1 24 infoRdn Tryz.underlying22 rfl l m xs (hl.ext x1) _ 1 (by decide) _ hs (by unfold maxLen; omega) (by omega)
  have o2 : Only (own l) wr w' := (x1.only (S := own l)).then o'
  have hso := h.on.size
  refine ⟨g, cap, w', hr, ⟨⟨_, r'.min⟩, fun b hb => ?_, h.on.trans (o2.mono fun b _ hb => (h.lown b hb).elim (fun h1 => .inl (.inl h1)) (fun h1 => .inr h1))⟩⟩
  rcases r'.2 b hb with h1 | h1
  · exact h.lown b h1
  · have : wr.heap.size ≤ b := Nat.le_trans x1.size h1
    exact .inr (by omega)
end Go.Proofs.YtfiijlmpfpmgiaaGreatDoor

/-
  rosterlaw06.mark.
-/
namespace Go.Proofs.YtfiijlmpfpmgiaaGreatDoor
open Go.RowKit

def mkL (i : Nat) : List UInt8 := [35, UInt8.ofNat i, UInt8.ofNat (i / 256), UInt8.ofNat (i / 65536)]
theorem own_lit6 (w : World) (l : List UInt8) (hl : l.length ≤ 1000000) : Own (w.alloc (.cells (l.map B8).toArray 5)) w.heap.size (.slice (some ⟨w.heap.size, 0, none⟩) l.length l.length) l := by
  refine ⟨by simp, .inr ⟨w.heap.size, l.length, (l.map B8).toArray, rfl, Nat.le_refl _, heap_alloc_new w _, Nat.le_refl _, by unfold maxLen; omega, by simp, by simp [List.take_of_length_le]⟩⟩
set_option maxRecDepth 100000 in
theorem mark_any (w : World) (i : Nat) : Calls Tryz.prog 15 #[.int .i64 i] w fun e w' => e = .returned (.string (str (mkL i))) ∧ Ext w w' := by
  have hcv : (convert 67 9 (.slice (some ⟨w.heap.size, 0, none⟩) 4 4)).run Tryz.prog (w.alloc (.cells #[.int .u8 35, .int .u8 ((i : Int) % 256), .int .u8 ((i : Int) / 256 % 256), .int .u8 ((i : Int) / 65536 % 256)] 5)) = .ok (.string (str (mkL i))) (w.alloc (.cells #[.int .u8 35, .int .u8 ((i : Int) % 256), .int .u8 ((i : Int) / 256 % 256), .int .u8 ((i : Int) / 65536 % 256)] 5)) := by
    have hcs : (#[.int .u8 35, .int .u8 ((i : Int) % 256), .int .u8 ((i : Int) / 256 % 256), .int .u8 ((i : Int) / 65536 % 256)] : Array Value) = ((mkL i).map B8).toArray := by
      simp [mkL, B8]
    rw [hcs]
    exact (own_lit6 w (mkL i) (by simp [mkL])).conv
  go_enter Tryz.func15, Tryz.ntmps15
  go_wp2
  go_ret
  exact ⟨rfl, (Ext.refl w).alloc _⟩
end Go.Proofs.YtfiijlmpfpmgiaaGreatDoor

/-
  rosterlaw06.spoil at a name in memory of its own.
-/
namespace Go.Proofs.YtfiijlmpfpmgiaaGreatDoor
open Go.RowKit

set_option maxRecDepth 100000 in
set_option maxHeartbeats 16000000 in
theorem spoil_any (w : World) (B : Nat) (v : Value) (pts : List (List Av)) (us : List Value) (hN : NmOwn w B v pts us) (hl : pts.length ≤ 500000000) (hc : ∀ i (h : i < pts.length), pts[i].length ≤ 500000000) :
    Calls Tryz.prog 8 #[.agg #[v]] w fun e w' => e = .returned (.bool true) ∧ Only (footN v us) w w' := by
  have hmix : Tryz.prog.follows Departure.mixedOrders = true := by kernel_rfl
  obtain ⟨a, c, hvs⟩ := row_slice hN.row
  obtain ⟨n, hn⟩ : ∃ n, n = us.length := ⟨_, rfl⟩
  rw [← hn] at hvs
  subst hvs
  have hap : Hid (ApN us) := hN.apart
  have hpl : Hid (us.length = pts.length) := hN.pln
  have hnm : n ≤ 500000000 := by rw [hn, hpl.out]; exact hl
  have hnh : Hid (n = us.length) := hn
  have hlt : Hid (∀ b, footN (.slice a n c) us b → b < w.heap.size) := by
    rintro b (hb | ⟨i, hi, hb⟩)
    · exact hN.row.lt hb
    · exact (hN.new i hi (by rw [← hpl.out]; exact hi)).lt hb
  have hch : Hid (∀ i (h : i < pts.length), pts[i].length ≤ 500000000) := hc
  obtain ⟨mk, hmk⟩ : ∃ mk : Nat → ByteArray, Hid (∀ i, mk i = str (mkL i)) := ⟨fun i => str (mkL i), fun _ => rfl⟩
  obtain ⟨w1, hw1⟩ : ∃ w1, w1 = w.alloc (.cells #[.slice a n c] 24) := ⟨_, rfl⟩
  have x1 : Ext w w1 := by rw [hw1]; exact (Ext.refl w).alloc _
  have hbx : w1.heap[w.heap.size]? = some (.cells #[.slice a n c] 24 (0, 0)) := by rw [hw1]; exact heap_alloc_new _ _
  have hM0 : Hid (Mk1 mk w1 w1 (.slice a n c) us pts 0 0) := by
    have h0 : Mk1 mk w w (.slice a n c) us pts 0 0 := Mk1.start hN
    exact ⟨h0.row.ext x1, fun i p q => by obtain ⟨xs, h1, h2, h3⟩ := h0.new i p q; exact ⟨xs, h1.ext x1, h2, h3⟩, Only.refl _ _⟩
  -- the box of the argument stands, whatever is done
  have hbox : Hid (∀ wr, Only (footN (.slice a n c) us) w1 wr → wr.cell? ⟨w.heap.size, 0, none⟩ = some (.slice a n c)) := by
    intro wr o
    have h0 := (o.block _ (Array.getElem?_eq_some_iff.1 hbx).1 (fun hf => by have := hlt.out _ hf; omega)).trans hbx
    simpa using cell_of_row _ _ 0 _ _ _ h0
  have hlt1 : Hid (∀ b, footN (.slice a n c) us b → b < w1.heap.size) := fun b hb => Nat.lt_of_lt_of_le (hlt.out b hb) x1.size
  -- what stands of the list of parts
  have hpart : Hid (∀ wr, Row wr (own (.slice a n c)) 45 1 (.slice a n c) us.length us → ∀ k (h : k < us.length), ∃ g, a = some ⟨g, 0, none⟩ ∧ n ≤ c ∧ wr.cell? ⟨g, k, none⟩ = some us[k] ∧ own (.slice a n c) g) := by
    intro wr r k hk
    obtain ⟨g, cap, e, h1, _, h3, _⟩ := row_cellS r (by omega)
    simp only [Value.slice.injEq] at e
    obtain ⟨rfl, h5, rfl⟩ := e
    exact ⟨g, rfl, by omega, h3 k _ (List.getElem?_eq_getElem hk), rfl⟩
  have xw : Hid (Ext w w1) := x1
  have hshape : Hid (∀ i (h : i < us.length) (h' : i < pts.length), ∃ aj cj, us[i] = .slice aj pts[i].length cj ∧ pts[i].length ≤ cj) := by
    intro i h h'
    have hr := hN.new i h h'
    obtain ⟨aj, cj, e⟩ := row_slice hr
    refine ⟨aj, cj, e, ?_⟩
    rcases hr.1.2 with ⟨_, h0⟩ | ⟨_, _, _, e', _, _, h1, _⟩
    · omega
    · rw [e] at e'; simp only [Value.slice.injEq] at e'; omega
  clear hl hc hN hn x1 hbx hlt
  go_enter Tryz.func8, Tryz.ntmps8
  go_wp2
  rw [← hw1]
  clear hw1
  go_loopw [3] (fun v3 wr => ∃ (k : Nat), k ≤ n ∧ v3 = .int .i64 k ∧ Hid (Mk1 mk w1 wr (.slice a n c) us pts k 0)) (fun v3 _ => n - (intOf v3).toNat)
  case atStart => exact ⟨0, Nat.zero_le _, rfl, hM0.out⟩
  case round =>
    obtain ⟨k, hk, rfl, hM⟩ := hrel
    have kb := hbox.out wr hM.out.on
    by_cases hkn : k < n
    · have hkn' : (k : Int) < (n : Int) := by omega
      have hku : k < us.length := by have := hnh.out; omega
      have hkp : k < pts.length := by rw [← hpl.out]; exact hku
      obtain ⟨uk, huk⟩ : ∃ u, Hid (u = us[k]) := ⟨us[k], (rfl : us[k] = us[k])⟩
      obtain ⟨m, hm⟩ : ∃ m, Hid (m = pts[k].length) := ⟨pts[k].length, (rfl : pts[k].length = pts[k].length)⟩
      have hml : m ≤ 500000000 := by rw [hm.out]; exact hch.out k hkp
      have hrk := hM.out.new k hku hkp
      obtain ⟨xk, hxk, _⟩ := hrk
      rw [← huk.out, ← hm.out] at hxk
      obtain ⟨ak, ck, e⟩ := row_slice hxk
      subst e
      have hck : m ≤ ck := by
        rcases hxk.1.2 with ⟨e, h0⟩ | ⟨_, _, _, e, _, _, h1, _⟩
        · omega
        · simp only [Value.slice.injEq] at e; omega
      clear hxk
      go_wp2
      obtain ⟨wo, rfl⟩ : ∃ wo, wo = wr := ⟨_, rfl⟩
      go_loopw [4] (fun v4 wx => ∃ (q : Nat), q ≤ m ∧ v4 = .int .i64 q ∧ Hid (Mk1 mk w1 wx (.slice a n c) us pts k q)) (fun v4 _ => m - (intOf v4).toNat)
      case atStart => exact ⟨0, Nat.zero_le _, rfl, hM.out⟩
      case round =>
        obtain ⟨q, hq, rfl, hQ⟩ := hrel
        have kb := hbox.out wr hQ.out.on
        obtain ⟨g, rfl, hnc, hcell, _⟩ := hpart.out wr hQ.out.row k hku
        rw [← huk.out] at hcell
        by_cases hqm : q < m
        · have hqm' : (q : Int) < (m : Int) := by omega
          obtain ⟨xq, hxq, _, _⟩ := hQ.out.new k hku hkp
          rw [← huk.out, ← hm.out] at hxq
          obtain ⟨g2, cap2, e2, _, _, h3, hfz⟩ := row_cellS hxq (by omega)
          simp only [Value.slice.injEq] at e2
          obtain ⟨rfl, _, rfl⟩ := e2
          have hlq : xq.length = m * 2 := hxq.1.1
          have f0 := h3 (q * 2) _ (List.getElem?_eq_getElem (by omega))
          have f1 := h3 (q * 2 + 1) _ (List.getElem?_eq_getElem (by omega))
          have z0 := hfz (q * 2)
          have z1 := hfz (q * 2 + 1)
          generalize xq[q * 2] = y0 at f0
          generalize xq[q * 2 + 1] = y1 at f1
          have hQh : Hid (Mk1 mk w1 wr (.slice (some ⟨g, 0, none⟩) n c) us pts k q) := hQ.out
          have hqp : Hid (q < pts[k].length) := by show _ < _; rw [← hm.out]; exact hqm
          have hmark : Calls Tryz.prog 15 #[.int .i64 (k : Int)] wr.drew fun e w' => e = .returned (.string (mk k)) ∧ Hid (Ext wr w') ∧ w'.cell? ⟨w.heap.size, 0, none⟩ = some (.slice (some ⟨g, 0, none⟩) n c) ∧ w'.cell? ⟨g, k, none⟩ = some (.slice (some ⟨g2, 0, none⟩) m ck) ∧ w'.cell? ⟨g2, q * 2, none⟩ = some y0 ∧ w'.cell? ⟨g2, q * 2 + 1, none⟩ = some y1 ∧ w'.frozen? ⟨g2, q * 2, none⟩ = false ∧ w'.frozen? ⟨g2, q * 2 + 1, none⟩ = false := by
            refine (mark_any wr.drew k).mono ?_
            rintro _ w' ⟨rfl, x⟩
            have xx : Ext wr w' := ((Ext.refl wr).drew).trans x
            refine ⟨by rw [hmk.out], xx, xx.cell kb, xx.cell hcell, xx.cell f0, xx.cell f1, ?_, ?_⟩
            · rw [← z0]; exact World.frozen?_of_block (xx.block _ (World.block_lt_of_cell? wr _ f0))
            · rw [← z1]; exact World.frozen?_of_block (xx.block _ (World.block_lt_of_cell? wr _ f1))
          clear hxq h3 hfz hlq hQ hM0 hM
          go_upto_region 7 with fail
          go_region_with_o (go_at_call 15; refine hmark.mono ?_; rintro _ w5 ⟨rfl, x5, q0, q1, q2, q3, q4, q5⟩)
          all_goals
            have hN : Hid (Mk1 mk w1 ((w5.setCell ⟨g2, q * 2, none⟩ (.string (mk k))).setCell ⟨g2, q * 2 + 1, none⟩ (.string ⟨#[]⟩)) (.slice (some ⟨g, 0, none⟩) n c) us pts k (q + 1)) := (hQh.out.ext x5.out).put hap.out hku hkp hqp.out (by rw [← hm.out]; exact huk.out.symm) _
            clear hQh
            go_wp2
            go_roundw
            · exact ⟨q + 1, hqm, by go_num, hN⟩
            · simp [intOf]; omega
        · have hqm' : ¬ (q : Int) < (m : Int) := by omega
          obtain rfl : q = m := by omega
          have hnx : Hid (Mk1 mk w1 wr (.slice (some ⟨g, 0, none⟩) n c) us pts (k + 1) 0) := Mk1.next hkp (by rw [← hm.out]; exact hQ.out)
          go_wp2
          go_roundw
          case rel => exact ⟨k + 1, hkn, by go_num, hnx⟩
          case measure => simp [intOf]; omega
    · have hkn' : ¬ (k : Int) < (n : Int) := by omega
      obtain rfl : k = n := by omega
      have h2 : Hid (Mk2 mk w1 wr (.slice a k c) us pts 0) := hM.out.done (by have := hnh.out; omega)
      clear hM hM0
      go_wp2
      obtain ⟨wo, rfl⟩ : ∃ wo, wo = wr := ⟨_, rfl⟩
      go_loopw [5] (fun v5 wx => ∃ i : Nat, i ≤ k ∧ v5 = .int .i64 i ∧ Hid (Mk2 mk w1 wx (.slice a k c) us pts i)) (fun v5 _ => k - (intOf v5).toNat)
      case atStart => exact ⟨0, Nat.zero_le _, rfl, h2.out⟩
      case round =>
        obtain ⟨i, hi, rfl, hQ⟩ := hrel
        have kb := hbox.out wr hQ.out.on
        by_cases hik : i < k
        · have hik' : (i : Int) < (k : Int) := by omega
          have hiu : i < us.length := by have := hnh.out; omega
          have hip : i < pts.length := by rw [← hpl.out]; exact hiu
          obtain ⟨g, rfl, hnc, hcell, _⟩ := hpart.out wr hQ.out.row i hiu
          obtain ⟨m, hm⟩ : ∃ m, Hid (m = pts[i].length) := ⟨pts[i].length, (rfl : pts[i].length = pts[i].length)⟩
          have hml : m ≤ 500000000 := by rw [hm.out]; exact hch.out i hip
          have h3 := hQ.out.start hiu hip
          rw [← hm.out] at h3
          obtain ⟨xs, hxs⟩ := h3.lrow
          obtain ⟨ai, ci, e⟩ := row_slice hxs
          rw [e] at hcell h3
          have h3h : Hid (Mk3 mk w1 wr (.slice (some ⟨g, 0, none⟩) k c) us pts i (.slice ai m ci) m) := h3
          clear h3 hxs e hQ h2
          go_wp2
          obtain ⟨wo2, rfl⟩ : ∃ wo2, wo2 = wr := ⟨_, rfl⟩
          go_loopw [6, 7] (fun v6 v7 wx => ∃ (j : Nat) (a6 : Option Addr) (c6 : Nat), j ≤ 9 ∧ v6 = .slice a6 (m + j) c6 ∧ v7 = .int .i64 j ∧ Hid (Mk3 mk w1 wx (.slice (some ⟨g, 0, none⟩) k c) us pts i (.slice a6 (m + j) c6) (m + j))) (fun _ v7 _ => 9 - (intOf v7).toNat)
          case atStart => exact ⟨0, ai, ci, by omega, rfl, rfl, h3h.out⟩
          case round =>
            obtain ⟨j, a6, c6, hj, rfl, rfl, hP⟩ := hrel
            by_cases hj9 : j < 9
            · have hj9' : (j : Int) < 9 := by omega
              obtain ⟨g6, cap6, w6, hrun, hnext⟩ := hP.out.push hiu hip hap.out hlt1.out (by omega) 43
              have hrunh : Hid _ := hrun
              have hn6 : Hid (Mk3 mk w1 w6 (.slice (some ⟨g, 0, none⟩) k c) us pts i (.slice (some ⟨g6, 0, none⟩) (m + j + 1) cap6) (m + j + 1)) := hnext
              clear hrun hnext hP h3h
              go_wp2_with (at_builtin; refine Hid.out ?_)
              refine Lib.wpList_append_run _ rfl _ _ _ _ rfl _ _ rfl rfl _ _ hrunh.out ?_
              clear hrunh
              go_wp2
              go_roundw
              case rel => exact ⟨j + 1, some ⟨g6, 0, none⟩, cap6, hj9, rfl, by go_num, hn6⟩
              case measure => first | (simp [intOf]; omega) | omega
            · have hj9' : ¬ (j : Int) < 9 := by omega
              have hn6 : Hid (Mk2 mk w1 wr (.slice (some ⟨g, 0, none⟩) k c) us pts (i + 1)) := hP.out.toMk2
              clear hP h3h
              go_wp2
              go_roundw
              case rel => exact ⟨i + 1, hik, by go_num, hn6⟩
              case measure => first | (simp [intOf]; omega) | omega
        · have hik' : ¬ (i : Int) < (k : Int) := by omega
          obtain rfl : i = k := by omega
          have hQh : Hid (Mk2 mk w1 wr (.slice a i c) us pts i) := hQ.out
          clear hQ h2
          go_wp2
          obtain ⟨wo2, rfl⟩ : ∃ wo2, wo2 = wr := ⟨_, rfl⟩
          go_loopw [8] (fun v8 wx => ∃ j : Nat, j ≤ i ∧ v8 = .int .i64 j ∧ Hid (Mk2 mk w1 wx (.slice a i c) us pts i)) (fun v8 _ => i - (intOf v8).toNat)
          case atStart => exact ⟨0, Nat.zero_le _, rfl, hQh.out⟩
          case round =>
            obtain ⟨j, hj, rfl, hQ⟩ := hrel
            have kb := hbox.out wr hQ.out.on
            by_cases hji : j < i
            · have hji' : (j : Int) < (i : Int) := by omega
              have hju : j < us.length := by have := hnh.out; omega
              have hjp : j < pts.length := by rw [← hpl.out]; exact hju
              obtain ⟨g, rfl, hnc, hcell, _⟩ := hpart.out wr hQ.out.row j hju
              obtain ⟨uj, huj⟩ : ∃ u, Hid (u = us[j]) := ⟨us[j], (rfl : us[j] = us[j])⟩
              obtain ⟨m, hm⟩ : ∃ m, Hid (m = pts[j].length) := ⟨pts[j].length, (rfl : pts[j].length = pts[j].length)⟩
              have hml : m ≤ 500000000 := by rw [hm.out]; exact hch.out j hjp
              rw [← huj.out] at hcell
              have hujs : ∃ aj cj, uj = .slice aj m cj ∧ m ≤ cj := by
                rw [huj.out, hm.out]
                exact hshape.out j hju hjp
              obtain ⟨aj, cj, rfl, hmc⟩ := hujs
              clear hQh
              go_wp2
              obtain ⟨wo3, rfl⟩ : ∃ wo3, wo3 = wr := ⟨_, rfl⟩
              go_loopw [9] (fun v9 wx => ∃ q : Nat, q ≤ m ∧ v9 = .int .i64 q ∧ Hid (Mk2 mk w1 wx (.slice (some ⟨g, 0, none⟩) i c) us pts i)) (fun v9 _ => m - (intOf v9).toNat)
              case atStart => exact ⟨0, Nat.zero_le _, rfl, hQ.out⟩
              case round =>
                obtain ⟨q, hq, rfl, hP⟩ := hrel
                have kb := hbox.out wr hP.out.on
                obtain ⟨g', e', _, hcell, _⟩ := hpart.out wr hP.out.row j hju
                cases e'
                rw [← huj.out] at hcell
                by_cases hqm : q < m
                · have hqm' : (q : Int) < (m : Int) := by omega
                  obtain ⟨g2, c2, e2, _, hmc2⟩ := hP.out.cel j hju hjp q (by rw [← hm.out]; exact hqm)
                  rw [← huj.out, ← hm.out] at e2
                  simp only [Value.slice.injEq, true_and] at e2
                  obtain ⟨rfl, rfl⟩ := e2
                  have hmark : Calls Tryz.prog 15 #[.int .i64 (j : Int)] wr.drew fun e w' => e = .returned (.string (mk j)) ∧ Hid (Ext wr w') ∧ w'.cell? ⟨w.heap.size, 0, none⟩ = some (.slice (some ⟨g, 0, none⟩) i c) ∧ w'.cell? ⟨g, j, none⟩ = some (.slice (some ⟨g2, 0, none⟩) m cj) ∧ w'.cell? ⟨g2, q * 2, none⟩ = some (.string (mk j)) := by
                    refine (mark_any wr.drew j).mono ?_
                    rintro _ w' ⟨rfl, x⟩
                    have xx : Ext wr w' := ((Ext.refl wr).drew).trans x
                    exact ⟨by rw [hmk.out], xx, xx.cell kb, xx.cell hcell, xx.cell hmc2⟩
                  have hPh : Hid (Mk2 mk w1 wr (.slice (some ⟨g, 0, none⟩) i c) us pts i) := hP.out
                  clear hP hQ
                  obtain ⟨M, hM⟩ : ∃ M, Hid (M = mk j) := ⟨mk j, (rfl : mk j = mk j)⟩
                  rw [← hM.out] at hmark hmc2
                  have hMM : (M.toList == M.toList) = true := by simp
                  go_upto_region 22 with fail
                  go_region_with_o (go_at_call 15; refine hmark.mono ?_; rintro _ w5 ⟨rfl, x5, q0, q1, q2⟩)
                  all_goals
                    have hN : Hid (Mk2 mk w1 w5 (.slice (some ⟨g, 0, none⟩) i c) us pts i) := hPh.out.ext x5.out
                    clear hPh
                    go_wp2
                    go_roundw
                    · exact ⟨q + 1, hqm, by go_num, hN⟩
                    · simp [intOf]; omega
                · have hqm' : ¬ (q : Int) < (m : Int) := by omega
                  go_wp2
                  go_roundw
                  case rel => exact ⟨j + 1, hji, by go_num, hP⟩
                  case measure => first | (simp [intOf]; omega) | omega
            · have hji' : ¬ (j : Int) < (i : Int) := by omega
              have h4 : Hid (Mk4 w1 wr (.slice a i c) us (.slice a i c) i) := by
                have h0 := hQ.out.all
                rw [← hnh.out] at h0
                exact h0
              clear hQ hQh
              go_wp2
              obtain ⟨wo3, rfl⟩ : ∃ wo3, wo3 = wr := ⟨_, rfl⟩
              go_loopw [10, 11] (fun v10 v11 wx => ∃ (q : Nat) (a6 : Option Addr) (c6 : Nat), q ≤ 9 ∧ v10 = .slice a6 (i + q) c6 ∧ v11 = .int .i64 q ∧ Hid (Mk4 w1 wx (.slice a i c) us (.slice a6 (i + q) c6) (i + q))) (fun _ v11 _ => 9 - (intOf v11).toNat)
              case atStart => exact ⟨0, a, c, by omega, rfl, rfl, h4.out⟩
              case round =>
                obtain ⟨q, a6, c6, hq, rfl, rfl, hP⟩ := hrel
                have kb := hbox.out wr hP.out.on
                by_cases hq9 : q < 9
                · have hq9' : (q : Int) < 9 := by omega
                  obtain ⟨g6, cap6, w6, hrun, hnext⟩ := hP.out.push (by omega) 22
                  have hrunh : Hid _ := hrun
                  have hn6 : Hid (Mk4 w1 w6 (.slice a i c) us (.slice (some ⟨g6, 0, none⟩) (i + q + 1) cap6) (i + q + 1)) := hnext
                  clear hrun hnext hP h4
                  go_wp2_with (at_builtin; refine Hid.out ?_)
                  refine Lib.wpList_append_run _ rfl _ _ _ _ rfl _ _ rfl rfl _ _ hrunh.out ?_
                  clear hrunh
                  go_wp2
                  go_roundw
                  case rel => exact ⟨q + 1, some ⟨g6, 0, none⟩, cap6, hq9, rfl, by go_num, hn6⟩
                  case measure => first | (simp [intOf]; omega) | omega
                · have hq9' : ¬ (q : Int) < 9 := by omega
                  obtain rfl : q = 9 := by omega
                  have hO : Hid (Only (footN (.slice a i c) us) w wr) := (xw.out.only (S := footN (.slice a i c) us)).then hP.out.on
                  clear hP h4
                  go_wp2
                  go_ret
                  exact ⟨rfl, hO.out⟩
end Go.Proofs.YtfiijlmpfpmgiaaGreatDoor
