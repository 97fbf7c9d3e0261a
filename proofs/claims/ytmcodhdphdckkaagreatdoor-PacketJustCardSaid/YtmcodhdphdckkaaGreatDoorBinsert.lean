/-
  The contract of slices.Insert into a row of bytes that the caller owns.
-/
import Derived.Test.YtmcodhdphdckkaaGreatDoorBwopen
import Derived.Lib.Overlaps
import Derived.Laws.Externs
import Derived.Laws.CopyRow
namespace Go.Proofs.YtmcodhdphdckkaaGreatDoor
open Go.RowKit Go.Shelf

theorem wp_copy_known {o : Oper} {a : Act} {w : World} {K : Act → World → Prop} {Q : Exit → Act → World → Prop} (d s : Operand) (t t' : TypeId)
    (ho : o.op = .call { callee := .builtin .copy, args := #[d, s], argTypes := #[t, t'] }) (v u : Value) (hd : a.eval d = v) (hs : a.eval s = u) {v' : Value} {w' : World}
    (hr : (Builtin.copy_ #[t, t'] o.type #[v, u]).run Tryz.prog w = .ok v' w') (h : K (a.put o.dst v') w') : o.wp Tryz.prog a w K Q := by
  unfold Oper.wp
  simp [execOp, ho, resolve, invoke, builtin, hd, hs, hr, Result.andThen]
  exact h
theorem wpList_copy_known {ops : Array Oper} {rest : List Oper} {o : Oper} {a : Act} {w : World} {Q : Exit → Act → World → Prop} (hgd : o.guard = none) (d s : Operand) (t t' : TypeId)
    (ho : o.op = .call { callee := .builtin .copy, args := #[d, s], argTypes := #[t, t'] }) (v u : Value) (hd : a.eval d = v) (hs : a.eval s = u) {v' : Value} {w' : World}
    (hr : (Builtin.copy_ #[t, t'] o.type #[v, u]).run Tryz.prog w = .ok v' w') (h : wpList Tryz.prog ops Q rest (a.put o.dst v') w') : wpList Tryz.prog ops Q (o :: rest) a w :=
  wpList_plain hgd fun _ hK => wp_copy_known d s t t' ho v u hd hs hr (hK _ _ h)
theorem step_copy_known {ops : Array Oper} {o : Oper} {a : Act} {w : World} {K : Act → World → Prop} {Q : Exit → Act → World → Prop} {E : Prop} (hgd : o.guard = none) (d s : Operand) (t t' : TypeId)
    (ho : o.op = .call { callee := .builtin .copy, args := #[d, s], argTypes := #[t, t'] }) (v u : Value) (hd : a.eval d = v) (hs : a.eval s = u) {v' : Value} {w' : World}
    (hr : (Builtin.copy_ #[t, t'] o.type #[v, u]).run Tryz.prog w = .ok v' w') (h : K (a.put o.dst v') w') : if Region.wanted o (yielded ops a.tmps) = true then Oper.wp Tryz.prog o a w K Q else E := by
  have hw : Region.wanted o (yielded ops a.tmps) = true := by simp [Region.wanted, hgd]
  rw [if_pos hw]
  exact wp_copy_known d s t t' ho v u hd hs hr h

theorem Only.setRow {S : Nat → Prop} (w : World) (g : Nat) (cs : Array Value) (hg : S g) : Only S w (w.setRow g cs) :=
  ⟨rfl, rfl, rfl, by simp [World.setRow], fun k _ hn => setRow_other w g k cs (fun e => hn (e ▸ hg))⟩
theorem b8_one (l : List UInt8) : ∀ u ∈ l.map B8, u.oneCell' = true := fun u hu => by obtain ⟨b, _, rfl⟩ := List.mem_map.1 hu; rfl
/-- a piece of a row of bytes, from the place i on -/
theorem row_piece {w : World} {g : Nat} {cur : Array Value} {l : List UInt8} {n : Nat} (hg : w.heap[g]? = some (.cells cur 5 (0, 0))) (ht : cur.toList.take n = l.map B8) (hn : n = l.length) (i : Nat) : ∀ j u, ((l.drop i).map B8)[j]? = some u → w.cell? ((⟨g, i, none⟩ : Addr).add j) = some u := by
  intro j u hu
  rw [Addr.add_lit, cell_of_row w g (i + j) cur _ _ hg]
  have hj : i + j < l.length := by
    rcases Nat.lt_or_ge (i + j) l.length with h | h
    · exact h
    · rw [List.getElem?_eq_none (by simp; omega)] at hu; cases hu
  have h1 : (cur.toList.take n)[i + j]? = some u := by
    rw [ht]; simpa [List.getElem?_drop] using hu
  rw [List.getElem?_take_of_lt (by omega)] at h1
  simpa using h1

theorem size8m : (Tryz.prog.info? 5).map (·.size) = some 1 := by kernel_rfl
theorem copy8 (w : World) (g o dLen dCap : Nat) (cur : Array Value) (hg : w.heap[g]? = some (.cells cur 5 (0, 0))) (a : Addr) (sLen sCap : Nat) (ty : TypeId) (m : List UInt8) (hn : m.length = Nat.min sLen dLen) (hsrc : ∀ j u, (m.map B8)[j]? = some u → w.cell? (a.add j) = some u) (hfit : o + m.length ≤ cur.size) :
    (Builtin.copy_ #[22, 22] ty #[.slice (some ⟨g, o, none⟩) dLen dCap, .slice (some a) sLen sCap]).run Tryz.prog w = .ok (goInt m.length) (w.setRow g (cur.toList.take o ++ m.map B8 ++ cur.toList.drop (o + m.length)).toArray) := by
  have h := run_copy_row (P := Tryz.prog) w 22 22 ty 5 g o dLen dCap a sLen sCap cur 5 (m.map B8) Tryz.underlying22 size8m hg (by simpa using hn) hsrc (by simpa using hfit) (b8_one m)
  simpa using h

/-- the piece put in, in place -/
theorem splice_room {α : Type} (cur l m : List α) (i n k : Nat) (hl : cur.take n = l) (hn : l.length = n) (hm : m.length = k) (hi : i ≤ n) (hc : n + k ≤ cur.length) :
    ((cur.take (i + k) ++ l.drop i ++ cur.drop (i + k + (l.drop i).length)).take i ++ m ++ (cur.take (i + k) ++ l.drop i ++ cur.drop (i + k + (l.drop i).length)).drop (i + m.length)).take (n + k) = l.take i ++ m ++ l.drop i := by
  have e1 : (cur.take (i + k) ++ l.drop i ++ cur.drop (i + k + (l.drop i).length)).take i = l.take i := by
    rw [List.append_assoc, List.take_append_of_le_length (by simp; omega), List.take_take, ← hl, List.take_take]
    congr 1; omega
  have e2 : (cur.take (i + k) ++ l.drop i ++ cur.drop (i + k + (l.drop i).length)).drop (i + m.length) = l.drop i ++ cur.drop (i + k + (l.drop i).length) := by
    rw [List.append_assoc, List.drop_append_of_le_length (by simp; omega), List.drop_of_length_le (by simp; omega), List.nil_append]
  rw [e1, e2, ← List.append_assoc, List.take_append_of_le_length (by simp; omega), List.take_of_length_le (by simp; omega)]
/-- the piece put in, in new memory -/
theorem splice_grow {α : Type} (z l m : List α) (i n k : Nat) (hn : l.length = n) (hm : m.length = k) (hi : i ≤ n) :
    (((l.take i ++ z).take i ++ m ++ (l.take i ++ z).drop (i + m.length)).take (i + k) ++ l.drop i ++ ((l.take i ++ z).take i ++ m ++ (l.take i ++ z).drop (i + m.length)).drop (i + k + (l.drop i).length)).take (n + k) = l.take i ++ m ++ l.drop i := by
  have e1 : (l.take i ++ z).take i = l.take i := by
    rw [List.take_append_of_le_length (by simp; omega), List.take_of_length_le (by simp; omega)]
  rw [e1]
  have e2 : (l.take i ++ m ++ (l.take i ++ z).drop (i + m.length)).take (i + k) = l.take i ++ m := by
    rw [List.take_append_of_le_length (by simp; omega), List.take_of_length_le (by simp; omega)]
  rw [e2, List.take_append_of_le_length (by simp; omega), List.take_of_length_le (by simp; omega)]

set_option maxRecDepth 100000 in
set_option maxHeartbeats 8000000 in
theorem Insert_any (w : World) (S S' : Nat → Prop) (v x : Value) (l m : List UInt8) (i : Nat) (h : RowB w S v l) (hx : RowB w S' x m) (hd : ∀ k, own x k → ¬ own v k) (hi : i ≤ l.length) (hm : 0 < m.length) (hlen : l.length + m.length ≤ 1099511627776) :
    Calls Tryz.prog 62 #[v, .int .i64 i, x] w fun r w' => ∃ u, r = .returned u ∧ RowB w' (Up (own v) w.heap.size) u (l.take i ++ m ++ l.drop i) ∧ Only (own v) w w' := by
  rcases hx.1.2 with ⟨_, h0⟩ | ⟨gx, capx, curx, rfl, _, hgx, hnx, hmx, hcx, htx⟩
  · omega
  have hxs := hx.sl
  obtain ⟨k, hk⟩ : ∃ k, m.length = k := ⟨_, rfl⟩
  obtain ⟨n, hn⟩ : ∃ n, l.length = n := ⟨_, rfl⟩
  rw [hk] at hxs hnx htx hm hlen ⊢
  rw [hn] at hi hlen
  rw [Nat.mul_one] at htx
  by_cases hin : i = n
  · -- at the end
    subst hin
    have hll : l.take i ++ m ++ l.drop i = l ++ m := by rw [List.take_of_length_le (by omega), List.drop_of_length_le (by omega), List.append_nil]
    rw [hll]
    obtain ⟨w9, a9, cap9, hr, hr9, ho9⟩ := run_append8 w (own v) 22 22 v l (Row.min h) _ k m (by have h9 := src8v hxs; rwa [hk] at h9) hk.symm (by omega)
    rw [hn] at hr hr9
    have hv : ∃ a cap, v = .slice a i cap ∧ i ≤ cap := by obtain ⟨a, cap, e, h1, _⟩ := h.sl; exact ⟨a, cap, by rw [← hn]; exact e, by omega⟩
    obtain ⟨a, cap, rfl, hic⟩ := hv
    have hk0 : ((k : Int) == 0) = false := by simp; omega
    clear hd hx hxs htx
    by_cases hci : cap = i
    · subst hci
      go_enter Tryz.func62, Tryz.ntmps62
      go_wp2_with (at_builtin; refine Hid.out ?_)
      refine Lib.wpList_append_run _ rfl _ _ _ _ rfl _ _ rfl rfl _ _ hr ?_
      go_wp2
      go_ret
      exact ⟨_, rfl, hr9, ho9⟩
    · go_enter Tryz.func62, Tryz.ntmps62
      go_wp2_with (at_builtin; refine Hid.out ?_)
      refine Lib.wpList_append_run _ rfl _ _ _ _ rfl _ _ rfl rfl _ _ hr ?_
      go_wp2
      go_ret
      exact ⟨_, rfl, hr9, ho9⟩
  · rcases h.1.2 with ⟨_, h0⟩ | ⟨g, cap, cur, rfl, _, hg, hnc, hmc, hcc, htc⟩
    · omega
    rw [hn] at hnc htc ⊢
    rw [Nat.mul_one] at htc hcc
    have hgg : gx ≠ g := fun e => hd gx rfl (by rw [e]; rfl)
    have hin2 : i < n := by omega
    have hk0 : ((k : Int) == 0) = false := by simp; omega
    have hin3 : ((i : Int) == (n : Int)) = false := by simp; omega
    have hgh : Hid (w.heap[g]? = some (.cells cur 5 (0, 0))) := hg
    have hgxh : Hid (w.heap[gx]? = some (.cells curx 5 (0, 0))) := hgx
    have hdl : (l.drop i).length = n - i := by rw [List.length_drop, hn]
    have hpx : Hid (∀ j u, (m.map B8)[j]? = some u → w.cell? ((⟨gx, 0, none⟩ : Addr).add j) = some u) := row_piece hgx htx hk.symm 0
    have hpl : Hid (∀ j u, ((l.drop i).map B8)[j]? = some u → w.cell? ((⟨g, i, none⟩ : Addr).add j) = some u) := row_piece hg htc hn.symm i
    have htch : Hid (cur.toList.take n = l.map B8) := htc
    have hci : ¬ cap = i := by omega
    by_cases hroom : n + k ≤ cap
    · have hci2 : ¬ cap = i + k := by omega
      have hov : ∀ (wx : World) (lb cb : Nat), (∀ y, wx.heap[y]? = w.heap[y]?) → (callFunc 92 #[.slice (some ⟨gx, 0, none⟩) k capx, .slice (some ⟨g, i + k, none⟩) lb cb]).run Tryz.prog wx = .ok (.value (.bool false)) wx := fun wx lb cb hwx => by
        have h1 : wx.heap[gx]? = some (.cells curx 5 (0, 0)) := (hwx gx).trans hgxh.out
        have h2 : wx.heap[g]? = some (.cells cur 5 (0, 0)) := (hwx g).trans hgh.out
        rw [run_callFunc_extern Tryz.func92 (by kernel_rfl) (by kernel_rfl) (by kernel_rfl) (e := Extern.SlicesOverlaps.overlaps #[22, 22] #[4]) (by kernel_rfl),
          Lib.run_overlaps_apart wx 22 4 5 Tryz.underlying22 1 size8 ⟨gx, 0, none⟩ ⟨g, i + k, none⟩ k capx lb cb hgg 5 5 curx.size cur.size (by simp [World.shape?, h1]) (by simp [World.shape?, h2]) (by omega) (by simp [World.frozen?, h1]) (by simp [World.frozen?, h1])]
        rfl
      have hov1 := fun lb cb => hov w lb cb (fun _ => rfl)
      obtain ⟨r1, hr1⟩ : ∃ r1 : List Value, cur.toList.take (i + k) ++ (l.drop i).map B8 ++ cur.toList.drop (i + k + (l.drop i).length) = r1 := ⟨_, rfl⟩
      have hcp1 : ∀ ty dc sc, (Builtin.copy_ #[22, 22] ty #[.slice (some ⟨g, i + k, none⟩) (n + k - (i + k)) dc, .slice (some ⟨g, i, none⟩) (n + k - i) sc]).run Tryz.prog w.drew = .ok (goInt (l.drop i).length) (w.drew.setRow g r1.toArray) := fun ty dc sc => by
        have h9 := copy8 w.drew g (i + k) (n + k - (i + k)) dc cur hgh.out ⟨g, i, none⟩ (n + k - i) sc ty (l.drop i) (by rw [hdl]; simp only [Nat.min_def]; split <;> omega) hpl.out (by rw [hdl]; omega)
        rw [h9, hr1]
      have hmx : Tryz.prog.follows .mixedOrders = true := by kernel_rfl
      have hw1 : IntKind.i64.wrap ((i : Int) + (k : Int)) = (i : Int) + (k : Int) := by rw [IntKind.wrap_i64]; omega
      have hb1 : (0 : Int) ≤ (i : Int) + (k : Int) := by omega
      have htn : ((i : Int) + (k : Int)).toNat = i + k := by omega
      have hb3 : (i : Int) ≤ (n : Int) + (k : Int) := by omega
      clear hd hx hxs htx htc hg hgx hov
      go_enter Tryz.func62, Tryz.ntmps62
      go_wp2_with (simp only [hov1])
      go_region_law_o ((refine step_copy_known rfl _ _ 22 22 rfl _ _ (by simp [Act.eval, Act.put]) (by simp [Act.eval, Act.put]) (hcp1 _ _ _) ?_))
      have hg2 : (w.drew.setRow g r1.toArray).heap[g]? = some (.cells r1.toArray 5 (0, 0)) := setRow_heap w.drew g cur _ _ _ hgh.out
      have hr1l : r1.length = cap := by rw [← hr1]; simp; omega
      have hcp2 := fun ty dc => copy8 (w.drew.setRow g r1.toArray) g i (n + k - i) dc r1.toArray hg2 ⟨gx, 0, none⟩ k capx ty m (by rw [hk]; simp only [Nat.min_def]; split <;> omega)
        (fun j u hu => (World.cell?_of_block (by rw [Addr.add_lit]; exact setRow_other w.drew g gx _ hgg)).trans (hpx.out j u hu)) (by rw [hk]; simp; omega)
      have hg3 := fun arr => setRow_heap (w.drew.setRow g r1.toArray) g r1.toArray arr _ _ hg2
      generalize hW2 : w.drew.setRow g r1.toArray = W2 at hcp2 hg2 hg3 ⊢
      go_wp2
      go_ret
      have hon : Only (own (.slice (some ⟨g, 0, none⟩) n cap)) w W2 := by rw [← hW2]; exact (Only.refl _ w).drew.then (Only.setRow w.drew g _ rfl)
      refine ⟨_, rfl, ?_, hon.then (Only.setRow W2 g _ rfl)⟩
      have hsp := splice_room cur.toList (l.map B8) (m.map B8) i n k htch.out (by simpa using hn) (by simpa using hk) hi (by simp; omega)
      refine ⟨⟨by simp, .inr ⟨g, cap, _, ?_, Nat.zero_le _, hg3 _, by simp; omega, hmc, ?_, ?_⟩⟩, fun q hq => .inl hq⟩
      · congr 1; simp; omega
      · simp; omega
      · rw [← hr1]
        simp only [List.length_append, List.length_take, List.length_drop, hn, hk, Nat.mul_one, List.map_append, List.map_take, List.map_drop] at hsp ⊢
        rw [show min i n + (k + (n - i)) = n + k by omega]
        simp only [List.append_assoc, List.length_map, hn, hk] at hsp ⊢
        exact hsp
    · have hz3 : (cap : Int) < (n : Int) + (k : Int) := by omega
      have hk3 : (n : Int) + (k : Int) - (i : Int) = ((n + k - i : Nat) : Int) := by omega
      have hik : i + (n + k - i) = n + k := by omega
      obtain ⟨i0, hi0, hz0, hzs, hzb⟩ := info_parts info8
      have hold : (Builtin.firstCells i0.size i (.slice (some ⟨g, 0, none⟩) i cap)).run Tryz.prog w.drew = .ok ((l.map B8).take i).toArray w.drew := by
        rw [hzs]
        refine run_firstCells_some w.drew 1 i ⟨g, 0, none⟩ i cap ((l.map B8).take i) (by simp; omega) (fun j u hj => ?_)
        have hj2 : j < i := by
          rcases Nat.lt_or_ge j i with h | h
          · exact h
          · rw [List.getElem?_eq_none (by simp; omega)] at hj; cases hj
        rw [List.getElem?_take_of_lt hj2] at hj
        exact row_piece hgh.out htc hn.symm 0 j u (by simpa using hj)
      have hgr := Lib.run_append_grow_zeros w 22 3 22 5 i0 _ .i64 .i64 Tryz.underlying22 Tryz.underlying3 hi0 hz0 (some ⟨g, 0, none⟩) i cap ((l.map B8).take i) hold (n + k - i) (by omega) (by omega) (by omega) (by omega) (by rw [hzb]; omega) (by rw [hzb, hik]; exact growslice_fits (by omega) (by omega))
      rw [hik, ← hk3] at hgr
      have hGn := grownCap_ge w (n + k) cap 5
      have hGm := grownCap_le_maxLen w (n + k) cap 5 (by unfold maxLen; omega)
      obtain ⟨G, hG⟩ : ∃ G, grownCap w (n + k) cap 5 = G := ⟨_, rfl⟩
      rw [hG] at hgr hGn hGm
      obtain ⟨Z, hZ⟩ : ∃ Z : List Value, (Builtin.zeroCells (Value.int .u8 0).cells (n + k - i) ++ Builtin.zeroCells (Value.int .u8 0).cells (G - (n + k))).toList = Z := ⟨_, rfl⟩
      have hZl : Z.length = G - i := by rw [← hZ]; simp [Builtin.zeroCells, Value.cells]; omega
      have hRow : (((l.map B8).take i).toArray ++ Builtin.zeroCells (Value.int .u8 0).cells (n + k - i) ++ Builtin.zeroCells (Value.int .u8 0).cells (G - (n + k))) = ((l.map B8).take i ++ Z).toArray := by
        rw [← hZ]; apply Array.ext'; simp
      rw [hRow] at hgr
      have hmx : Tryz.prog.follows .mixedOrders = true := by kernel_rfl
      have hw1 : IntKind.i64.wrap ((i : Int) + (k : Int)) = (i : Int) + (k : Int) := by rw [IntKind.wrap_i64]; omega
      have hb1 : (0 : Int) ≤ (i : Int) + (k : Int) := by omega
      have htn : ((i : Int) + (k : Int)).toNat = i + k := by omega
      have hb3 : (i : Int) ≤ (n : Int) := by omega
      have hb4 : (i : Int) + (k : Int) ≤ (n : Int) + (k : Int) := by omega
      have hGi : ¬ (G = i) := by omega
      have hGi2 : ¬ (G = i + k) := by omega
      have hlt : g < w.heap.size := (Array.getElem?_eq_some_iff.1 hgh.out).1
      have hltx : gx < w.heap.size := (Array.getElem?_eq_some_iff.1 hgxh.out).1
      obtain ⟨W1, hW1⟩ : ∃ W1, w.drew.alloc (.cells ((l.map B8).take i ++ Z).toArray 5) = W1 := ⟨_, rfl⟩
      have hx1 : Ext w W1 := by rw [← hW1]; exact ((Ext.refl w).drew).alloc _
      have hg1 : W1.heap[w.heap.size]? = some (.cells ((l.map B8).take i ++ Z).toArray 5 (0, 0)) := by rw [← hW1]; exact heap_alloc_new w.drew _
      rw [hW1] at hgr
      have hcp1 := fun ty dc => copy8 W1 w.heap.size i (n + k - i) dc _ hg1 ⟨gx, 0, none⟩ k capx ty m (by rw [hk]; simp only [Nat.min_def]; split <;> omega)
        (fun j u hu => hx1.cell (hpx.out j u hu)) (by rw [hk]; simp; omega)
      obtain ⟨r1, hr1⟩ : ∃ r1 : List Value, ((l.map B8).take i ++ Z).toArray.toList.take i ++ m.map B8 ++ ((l.map B8).take i ++ Z).toArray.toList.drop (i + m.length) = r1 := ⟨_, rfl⟩
      rw [hr1] at hcp1
      have hr1l : r1.length = G := by rw [← hr1]; simp; omega
      have hx2 : Ext w (W1.setRow w.heap.size r1.toArray) := hx1.then (Only.setRow (S := fun q => w.heap.size ≤ q) W1 w.heap.size _ (Nat.le_refl _)) (fun _ h => h)
      have hg2 : (W1.setRow w.heap.size r1.toArray).heap[w.heap.size]? = some (.cells r1.toArray 5 (0, 0)) := setRow_heap W1 _ _ _ _ _ hg1
      obtain ⟨W2, hW2⟩ : ∃ W2, W1.setRow w.heap.size r1.toArray = W2 := ⟨_, rfl⟩
      rw [hW2] at hx2 hg2 hcp1
      have hcp2 := fun ty dc sc => copy8 W2.drew w.heap.size (i + k) (n + k - (i + k)) dc r1.toArray hg2 ⟨g, i, none⟩ (n - i) sc ty (l.drop i) (by rw [hdl]; simp only [Nat.min_def]; split <;> omega)
        (fun j u hu => hx2.drew.cell (hpl.out j u hu)) (by rw [hdl]; simp; omega)
      have hg3 := fun arr => setRow_heap W2.drew w.heap.size r1.toArray arr _ _ hg2
      clear hd hx hxs htx htc hg hgx hold hG hZ hRow hW1 hW2 hi0 hz0 hzs hzb hgh hgxh hik hk3
      go_enter Tryz.func62, Tryz.ntmps62
      go_wp2_with (at_builtin; refine Hid.out ?_)
      refine Lib.wpList_append_run _ rfl _ _ _ _ rfl _ _ rfl rfl _ _ hgr ?_
      clear hgr
      go_wp2
      go_region_law_o ((refine step_copy_known rfl _ _ 22 22 rfl _ _ (by simp [Act.eval, Act.put]) (by simp [Act.eval, Act.put]) (hcp2 _ _ _) ?_))
      go_wp2
      go_ret
      have hon : ∀ arr, Only (own (.slice (some ⟨g, 0, none⟩) n cap)) w (W2.drew.setRow w.heap.size arr) := fun arr =>
        (hx2.drew.only (S := own (.slice (some ⟨g, 0, none⟩) n cap))).trans (Only.setRow W2.drew w.heap.size _ (.inr (Nat.le_refl _)))
      refine ⟨_, rfl, ?_, hon _⟩
      have hsp := splice_grow Z (l.map B8) (m.map B8) i n k (by simpa using hn) (by simpa using hk) hi
      refine ⟨⟨by simp, .inr ⟨w.heap.size, G, _, ?_, Nat.zero_le _, hg3 _, by simp; omega, hGm, ?_, ?_⟩⟩, fun q hq => .inr (Nat.le_of_eq (Option.some.inj hq))⟩
      · congr 1; simp; omega
      · simp; omega
      · rw [← hr1]
        simp only [List.length_append, List.length_take, List.length_drop, hn, hk, Nat.mul_one, List.map_append, List.map_take, List.map_drop] at hsp ⊢
        rw [show min i n + k + (n - i) = n + k by omega]
        simp only [List.append_assoc, List.length_map, hn, hk] at hsp ⊢
        exact hsp
end Go.Proofs.YtmcodhdphdckkaaGreatDoor
