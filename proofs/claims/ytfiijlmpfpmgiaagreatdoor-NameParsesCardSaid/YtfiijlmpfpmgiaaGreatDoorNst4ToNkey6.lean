/-
  A row of steps cut into its parts.
-/
import Derived.Test.YtfiijlmpfpmgiaaGreatDoorNst3
import Derived.Test.YtfiijlmpfpmgiaaGreatDoorSmapToStys
import Derived.Test.YtfiijlmpfpmgiaaGreatDoorStwinToXpush
import Derived.Test.YtfiijlmpfpmgiaaGreatDoorNparseToShelf3
import Derived.Test.YtfiijlmpfpmgiaaGreatDoorScl
import Derived.Shelf.Slices.Cells
import Derived.Test.YtfiijlmpfpmgiaaGreatDoorNmnToOrd
namespace Go.Proofs.YtfiijlmpfpmgiaaGreatDoor
open Go.RowKit

theorem infoS6 : (Tryz.prog.info? 9).map (fun i => (i.zero, i.size, i.bytes)) = some (some (.string ⟨#[]⟩), 1, 16) := by kernel_rfl
theorem ne_empty6 {s : ByteArray} (h : ¬ s.size = 0) : s.toList.isEmpty = false := by
  rw [ByteArray.toList_eq]
  cases hl : s.data.toList with
  | nil => exfalso; apply h; rw [← byt_length]; unfold byt; rw [hl]; rfl
  | cons a l => rfl
theorem stepL_fin (l : List UInt8) : stepL (l.length + 1) (-1) l = none ∨ ∃ r, stepL (l.length + 1) (-1) l = some r ∧ r.length < l.length := by
  cases h : stepL (l.length + 1) (-1) l with
  | none => exact .inl rfl
  | some r => exact .inr ⟨r, rfl, (stepL_suf _ _ _ _ h).2⟩

set_option maxRecDepth 100000 in
set_option maxHeartbeats 4000000 in
theorem cut_any (w : World) (s : ByteArray) (hs : s.size ≤ 1000000000) :
    Calls Tryz.prog 40 #[.string s] w fun e w' => Ext w w' ∧ ((stepsL (byt s) = none ∧ e = .returned (.tuple #[.slice none 0 0, .bool false])) ∨
      ∃ q v, stepsL (byt s) = some q ∧ e = .returned (.tuple #[v, .bool true]) ∧ RowE 9 encS w' (fun k => w.heap.size ≤ k) v (q.map str)) := by
  have hcs := fun w1 (t : ByteArray) (h : t.size ≤ 140737488355328) => cutStep_any w1 t h
  go_enter Tryz.func40, Tryz.ntmps40
  go_wp2
  go_loopw [2, 4] (fun v x wr => ∃ (l : List UInt8) (acc : List (List UInt8)), x = .string (str l) ∧ Hid ((stepsL l).map (acc ++ ·) = stepsL (byt s)) ∧ acc.length + l.length ≤ s.size ∧ RowE 9 encS wr (fun k => w.heap.size ≤ k) v (acc.map str) ∧ Ext w wr) (fun _ x _ => match x with | .string t => t.size | _ => 0)
  case atStart => exact ⟨byt s, [], by rw [str_byt], by show _ = _; cases stepsL (byt s) <;> simp, by rw [byt_length]; simp, row_nil _ _ _ _, Ext.refl _⟩
  case round =>
    obtain ⟨l, acc, rfl, HI, hl, hrow, hx⟩ := hrel
    cases l with
    | nil =>
      have hv : Hid (stepsL (byt s) = some acc) := by have h0 := HI.out; rw [stepsL_nil] at h0; show _ = _; rw [← h0]; simp
      have hb0 : str [] = ⟨#[]⟩ := rfl
      rw [hb0]
      clear HI hcs
      obtain ⟨ra, rc, hre⟩ := row_slice hrow
      subst hre
      go_wp2
      go_ret2
      exact ⟨hx, .inr ⟨acc, _, hv.out, rfl, hrow⟩⟩
    | cons c r =>
      obtain ⟨l, hle⟩ : ∃ l, l = c :: r := ⟨_, rfl⟩
      rw [← hle] at HI hl ⊢
      have hln : l ≠ [] := by rw [hle]; simp
      have hne : (str l).toList.isEmpty = false := by rw [hle]; exact str_ne
      have hsz : (str l).size = l.length := by rw [← byt_length, byt_str]
      have hc := hcs wr (str l) (by omega)
      rw [byt_str, hsz] at hc
      have hst := stepsL_step hln
      clear hcs hle
      rcases stepL_fin l with hf | ⟨r2, hf, hr2⟩
      · rw [hf] at hc hst
        simp only [stV] at hc
        have hv : Hid (stepsL (byt s) = none) := by show _ = _; rw [← HI.out, hst]; rfl
        clear hst hf HI
        go_wp2_with (go_at_call 60; refine hc.mono ?_; rintro _ w1 ⟨rfl, x1⟩)
        go_ret2
        exact ⟨hx.trans x1, .inl ⟨hv.out, rfl⟩⟩
      · have hsuf := (stepL_suf _ _ _ _ hf).1
        rw [hf] at hc hst
        simp only [stV] at hc
        have htl : (l.take (l.length - r2.length)).length = l.length - r2.length := by rw [List.length_take]; omega
        obtain ⟨st, hsth⟩ : ∃ st, st = str (l.take (l.length - r2.length)) := ⟨_, rfl⟩
        rw [← hsth] at hc
        have hss : st.size = l.length - r2.length := by rw [hsth, ← byt_length, byt_str, htl]
        have hsn : st.toList.isEmpty = false := ne_empty6 (by omega)
        have hsl : (st.size : Int) ≤ ((str l).size : Int) := by omega
        have hex : Hid ((str l).extract st.size (str l).size = str r2) := by
          show _ = _
          rw [← str_byt ((str l).extract st.size _), byt_from, byt_str, hss, ← List.suffix_iff_eq_drop.1 hsuf]
        have hN : Hid ((stepsL r2).map ((acc ++ [l.take (l.length - r2.length)]) ++ ·) = stepsL (byt s)) := by
          show _ = _
          rw [← HI.out, hst]
          simp only
          generalize stepsL r2 = zz
          cases zz <;> simp
        have hsth2 : Hid (st = str (l.take (l.length - r2.length)) ∧ r2.length < l.length ∧ (str l).size = l.length) := ⟨hsth, hr2, hsz⟩
        obtain ⟨ra, rc, hre⟩ := row_slice hrow
        subst hre
        have hrh : Hid (Row wr (fun k => w.heap.size ≤ k) 9 1 (.slice ra acc.length rc) acc.length ((acc.map str).map encS)) := by
          have h0 := hrow; unfold RowE at h0; rw [List.length_map] at h0; exact h0
        have hlb : acc.length ≤ 1000000000 := by omega
        rw [List.length_map]
        clear hst hf HI hrow hsth hss hsz
        go_wp2_with (first | (go_at_call 60; refine hc.mono ?_; rintro _ w1 ⟨rfl, x1⟩) | (at_builtin; refine Hid.out ?_))
        refine wpList_rowpush rfl _ _ 59 9 _ 1 16 infoS6 Tryz.underlying59 rfl (by decide) (by rfl) w1 (fun k => w.heap.size ≤ k) (.slice ra acc.length rc) acc.length ((acc.map str).map encS) #[.string st] (Row.ext hrh.out x1) (by rfl) 1 1 w1.heap.size (by rfl) (by rfl) (by rfl) (by intro u hu; simp only [List.mem_singleton] at hu; subst hu; rfl) (by decide) (by unfold maxLen; omega) (by omega) ?_
        intro g5 cap5 w5 r5 o5
        go_wp2
        go_roundw
        case rel =>
          obtain ⟨h1, h2, h3⟩ := hsth2.out
          refine ⟨r2, acc ++ [l.take (l.length - r2.length)], by rw [hex.out], hN, by simp; omega, ?_, hx.trans x1 |>.then o5 (fun k hk => hk)⟩
          refine rowE_of r5 (by simp) (by rw [h1]; simp [encS]) (fun k hk => hk.elim id (fun h' => ?_))
          have := (hx.trans x1).size
          omega
        case measure =>
          obtain ⟨h1, h2, h3⟩ := hsth2.out
          rw [hex.out]
          simp only
          rw [h3, ← byt_length, byt_str]
          exact h2
end Go.Proofs.YtfiijlmpfpmgiaaGreatDoor

/-
  name.nameKey, where each part has a key.
-/
namespace Go.Proofs.YtfiijlmpfpmgiaaGreatDoor
open Go.RowKit

theorem reverseS (b off n c : Nat) (Sx : Nat → ByteArray) (w : World) (hbig : n ≤ 9223372036854775807) (hc : ∀ i, i < n → w.cell? ⟨b, off + i, none⟩ = some (.string (Sx i))) (hf : ∀ j, j < n → w.frozen? ⟨b, off + j, none⟩ = false) :
    Calls Tryz.prog 99 #[.slice (some ⟨b, off, none⟩) n c] w fun e w' => e = .returned (.tuple #[]) ∧ ∃ q, w' = (w.drewN q).setCells b off ((Lib.strsOf Sx n).reverse.map encStr) := Any.slices_Reverse_string_cells Tryz.laysNm217 b off n c Sx w hbig hc hf
theorem joinS (bk o c : Nat) (xs : List ByteArray) (sep : ByteArray) (w : World) (hcells : ∀ (j : Nat) x, xs[j]? = some x → w.cell? ⟨bk, o + j, none⟩ = some (.string x)) (hbk : bk < w.heap.size) (hN : xs.length ≤ 140737488355328) (hcap : xs.length ≤ c) (hlen : (Lib.join (xs.map (·.data.toList)) sep.data.toList).length ≤ 140737488355328) :
    Calls Tryz.prog 100 #[.slice (some ⟨bk, o, none⟩) xs.length c, .string sep] w fun e w' => e = .returned (.string ⟨(Lib.join (xs.map (·.data.toList)) sep.data.toList).toArray⟩) ∧ Below w.heap.size w w' := Any.strings_Join Tryz.lays156 Tryz.Builder_Extra_156 bk o c xs sep w hcells hbk hN hcap hlen
theorem strs_rev (ks : List ByteArray) : (Lib.strsOf (fun i => ks.getD i ⟨#[]⟩) ks.length).reverse.map encStr = ks.reverse.map (fun s => Value.string s) := by
  have e : Lib.strsOf (fun i => ks.getD i ⟨#[]⟩) ks.length = ks.map byt := by
    unfold Lib.strsOf
    apply List.ext_getElem
    · simp
    · intro i h1 h2
      have h3 : i < ks.length := by simpa using h2
      simp [h3, byt]
  rw [e, ← List.map_reverse, List.map_map]
  apply List.map_congr_left
  intro s _
  show Value.string (str (byt s)) = _
  rw [str_byt]
theorem join_none (xs : List ByteArray) : Lib.join (xs.map (·.data.toList)) (⟨#[]⟩ : ByteArray).data.toList = (xs.map byt).flatten := by
  have e : ∀ l : List (List UInt8), Lib.join l [] = l.flatten := by
    intro l
    unfold Lib.join
    induction l with
    | nil => rfl
    | cons a l ih =>
      cases l with
      | nil => simp [List.intercalate]
      | cons b l => 
        simp only [List.intercalate, List.intersperse] at ih ⊢
        simp only [List.flatten_cons, List.nil_append] at ih ⊢
        rw [ih]
  exact e _
set_option maxRecDepth 100000 in
set_option maxHeartbeats 4000000 in
theorem nameKey_ok (w : World) (K : Nat) (qv : Value) (us : List Value) (pts : List (List Av)) (hv : NmIn w qv us pts) (ks : List ByteArray) (hkl : ks.length = pts.length) (hpos : 0 < pts.length) (hn : pts.length ≤ 64) (hsz : ((ks.reverse.map byt).flatten).length ≤ 1000000000)
    (hpk : ∀ i (h : i < us.length) (h' : i < ks.length) w1, Ext w w1 → Calls Tryz.prog 98 #[.pointer (some ⟨K, 0, none⟩), .agg #[us[i]]] w1 fun e w' => e = .returned (.tuple #[.string ks[i], .int .i64 0]) ∧ Ext w1 w') :
    Calls Tryz.prog 68 #[.pointer (some ⟨K, 0, none⟩), .agg #[qv]] w fun e w' => e = .returned (.tuple #[.string (str (ks.reverse.map byt).flatten), .int .i64 0]) ∧ Ext w w' := by
  have hsl := hv.sl
  obtain ⟨a, n, c, rfl, hnu⟩ := hsl.shape
  obtain ⟨hlen0, hnc, hnm⟩ := hsl.len
  have hnk : Hid (n = ks.length) := by show _ = _; rw [hlen0, hv.len, hkl]
  have hnp : Hid (n = pts.length) := by show _ = _; rw [hlen0, hv.len]
  have hn64 : n ≤ 64 := by rw [hnp.out]; exact hn
  have hn0 : 0 < n := by rw [hnp.out]; exact hpos
  clear hlen0 hsl
  have x0 := (Ext.refl w).alloc (.cells #[.slice a n c] 24)
  go_enter Tryz.func68, Tryz.ntmps68
  go_wp2
  go_loopw [6, 14] (fun v i wr => ∃ k : Nat, k ≤ n ∧ i = .int .i64 k ∧ Hid (RowE 9 encS wr (fun b => w.heap.size ≤ b) v (ks.take k)) ∧ Ext w wr) (fun _ i _ => n - (intOf i).toNat)
  case atStart => exact ⟨0, Nat.zero_le _, rfl, row_nil _ _ _ _, x0⟩
  case round =>
    obtain ⟨k, hk, rfl, HR, hx⟩ := hrel
    by_cases hlt : k < n
    · have hlt' : (k : Int) < (n : Int) := by omega
      have hkp : k < pts.length := by rw [← hnp.out]; exact hlt
      have hku : k < us.length := by rw [hv.len]; exact hkp
      have hkk : k < ks.length := by rw [hkl]; exact hkp
      obtain ⟨g, o, rfl, e0⟩ := (hv.ext hx).sl.at k hku
      obtain ⟨ua, un, uc, hu, _⟩ := (hv.pts k hku hkp).shape
      have hp := hpk k hku hkk (wr.alloc (.cells #[us[k]] 45)) (hx.alloc _)
      rw [hu] at e0 hp
      simp only [id] at e0
      have hR := HR.out
      obtain ⟨ra, rc, hre⟩ := row_slice hR
      subst hre
      obtain ⟨kk, hkke⟩ : ∃ kk, kk = ks[k] := ⟨_, rfl⟩
      rw [← hkke] at hp
      have hkkh : Hid (kk = ks[k]) := hkke
      have hrl : (ks.take k).length = k := by rw [List.length_take]; omega
      have hrh : Hid (Row wr (fun b => w.heap.size ≤ b) 9 1 (.slice ra k rc) k ((ks.take k).map encS)) := by
        have h0 := hR; unfold RowE at h0; rw [hrl] at h0; exact h0
      rw [hrl]
      clear hpk hR HR hv hkke hu
      go_wp2_with (first | (go_at_call 98; refine hp.mono ?_; rintro _ w1 ⟨rfl, x1⟩) | (at_builtin; refine Hid.out ?_))
      refine wpList_rowpush rfl _ _ 59 9 _ 1 16 infoS6 Tryz.underlying59 rfl (by decide) (by rfl) w1 (fun b => w.heap.size ≤ b) (.slice ra k rc) k ((ks.take k).map encS) #[.string kk] (Row.ext hrh.out ((Ext.refl wr).alloc _ |>.trans x1)) (by rfl) 1 1 w1.heap.size (by rfl) (by rfl) (by rfl) (by intro u hu; simp only [List.mem_singleton] at hu; subst hu; rfl) (by decide) (by unfold maxLen; omega) (by omega) ?_
      intro g5 cap5 w5 r5 o5
      have hx1 := (hx.alloc _).trans x1
      go_wp2
      go_roundw
      · refine ⟨k + 1, hlt, by go_num, ?_, hx1.then o5 (fun b hb => hb)⟩
        refine rowE_of r5 (by rw [List.length_take]; omega) ?_ (fun b hb => hb.elim id (fun h' => by have := hx1.size; omega))
        rw [List.take_add_one, List.getElem?_eq_getElem hkk, List.map_append, ← hkkh.out]
        rfl
      · simp [intOf]; omega
    · have hlt' : ¬ (k : Int) < (n : Int) := by omega
      have hkn : k = n := by omega
      have hR := HR.out
      rw [hkn, List.take_of_length_le (by rw [← hnk.out]; exact Nat.le_refl _)] at hR
      obtain ⟨gr, cr, cur, hre, hcr, hfr, hgl, hgw, hbk, hcz⟩ : ∃ gr cr cur, u6 = .slice (some ⟨gr, 0, none⟩) n cr ∧ n ≤ cr ∧ (∀ j, wr.frozen? ⟨gr, j, none⟩ = false) ∧ gr < wr.heap.size ∧ w.heap.size ≤ gr ∧ wr.heap[gr]? = some (.cells cur 9 (0, 0)) ∧ cur.size = cr := by
        rcases hR.1.2 with ⟨_, h0⟩ | ⟨g', cap, cur, e, _, hg, h1, _, h3, _⟩
        · have := hnk.out; omega
        · refine ⟨g', cap, cur, by rw [e, ← hnk.out], by rw [hnk.out]; exact h1, fun j => by simp [World.frozen?, hg], (Array.getElem?_eq_some_iff.1 hg).1, hR.2 g' (by rw [e]; rfl), hg, by simpa using h3⟩
      subst hre
      have hcell : ∀ i (h : i < ks.length), wr.cell? ⟨gr, 0 + i, none⟩ = some (.string ks[i]) := by
        intro i h
        obtain ⟨g', o', e, hc⟩ := hR.sl.at i h
        simp only [Option.some.injEq, Addr.mk.injEq, and_true] at e
        obtain ⟨rfl, rfl⟩ := e
        exact hc
      have hrev := reverseS gr 0 n cr (fun i => ks.getD i ⟨#[]⟩) wr (by omega) (fun i hi => by
        have h : i < ks.length := by rw [← hnk.out]; exact hi
        rw [hcell i h]; simp [h]) (fun i _ => hfr _)
      rw [hnk.out] at hrev
      rw [strs_rev] at hrev
      rw [← hnk.out] at hrev
      have hrev2 : Calls Tryz.prog 99 #[.slice (some ⟨gr, 0, none⟩) n cr] wr fun e w' => e = .returned (.tuple #[]) ∧ Hid (Ext w w' ∧ gr < w'.heap.size ∧ ∀ j x, ks.reverse[j]? = some x → w'.cell? ⟨gr, 0 + j, none⟩ = some (.string x)) := by
        refine hrev.mono ?_
        rintro _ w' ⟨rfl, q, rfl⟩
        have hl : (ks.reverse.map (fun s => Value.string s)).length = n := by simp [hnk.out]
        have hh := heap_setCells_at gr 9 (0, 0) (ks.reverse.map (fun s => Value.string s)) 0 (wr.drewN q) cur.toList (by simpa using hbk) (by rw [hl]; simp; omega)
        refine ⟨rfl, (hx.drewN q).then (Only.setCells (S := fun b => b = gr) _ gr 0 _ rfl) (fun b hb => by omega), by rw [setCells_size]; exact hgl, fun j x hj => ?_⟩
        rw [Nat.zero_add, cell_of_row _ _ j _ _ _ hh]
        have hjl : j < ks.length := by
          rcases Nat.lt_or_ge j ks.length with h | h
          · exact h
          · rw [List.getElem?_eq_none (by simpa using h)] at hj; cases hj
        simp only [List.take_zero, List.nil_append, List.getElem?_toArray]
        rw [List.getElem?_append_left (by simpa using hjl), List.getElem?_map, hj]
        rfl
      clear hpk hv HR hrev hcell hR hbk
      go_wp2_with (go_at_call 99; refine hrev2.mono ?_; rintro _ w2 ⟨rfl, HX⟩; have hjn := joinS gr 0 cr ks.reverse ⟨#[]⟩ w2 HX.out.2.2 HX.out.2.1 (by rw [List.length_reverse, ← hnk.out]; omega) (by rw [List.length_reverse, ← hnk.out]; exact hcr) (by rw [join_none]; omega))
      rw [List.length_reverse, ← hnk.out, join_none] at hjn
      go_at_call 100
      refine hjn.mono ?_
      rintro _ w3 ⟨rfl, x3⟩
      go_wp2
      go_ret2
      exact ⟨by rw [List.map_reverse]; rfl, Below.trans HX.out.1 (Below.mono x3 HX.out.1.size)⟩
end Go.Proofs.YtfiijlmpfpmgiaaGreatDoor

/-
  name.Key, where the name can be written and its parts have keys.
-/
namespace Go.Proofs.YtfiijlmpfpmgiaaGreatDoor
open Go.RowKit

set_option maxRecDepth 100000 in
set_option maxHeartbeats 2000000 in
theorem Key_ok (w : World) (p : Nat) (qv : Value) (us : List Value) (pts : List (List Av)) (hv : NmIn w qv us pts) (x r : ByteArray)
    (hpr : ∀ w1, Ext w w1 → Calls Tryz.prog 16 #[.agg #[qv]] w1 fun e w' => e = .returned (.tuple #[.string x, .int .i64 0]) ∧ Ext w1 w')
    (hnk : ∀ w1 K, Ext w w1 → w1.heap[K]? = some (.cells #[.pointer (some ⟨p, 0, none⟩), .map (some (K + 1)), .slice none 0 0] 161 (0, 0)) → w1.heap[K + 1]? = some (.map (keyRow (.pointer (some ⟨K, 0, none⟩))) 11) →
      Calls Tryz.prog 68 #[.pointer (some ⟨K, 0, none⟩), .agg #[qv]] w1 fun e w' => e = .returned (.tuple #[.string r, .int .i64 0]) ∧ Ext w1 w') :
    Calls Tryz.prog 44 #[.pointer (some ⟨p, 0, none⟩), .agg #[qv]] w fun e w' => e = .returned (.tuple #[.string r, .int .i64 0]) ∧ Ext w w' := by
  have hmix : Tryz.prog.follows Departure.mixedOrders = true := by kernel_rfl
  obtain ⟨a, n, c, rfl, _⟩ := hv.sl.shape
  clear hv
  have x0 := (Ext.refl w).alloc (.cells #[.slice a n c] 24)
  have hb0 := heap_alloc_new w (.cells #[.slice a n c] 24)
  have hp1 := hpr _ x0
  go_enter Tryz.func44, Tryz.ntmps44
  go_upto_region 6 with (go_at_call 16; refine hp1.mono ?_; rintro _ w1 ⟨rfl, x1⟩)
  have x01 := x0.trans x1
  have hb1 := (x1.block _ (by simp)).trans hb0
  have c0 := cell_of_row _ _ 0 _ _ _ hb1
  simp only [List.getElem?_toArray, List.getElem?_cons_zero] at c0
  have hk1 : Calls Tryz.prog 67 #[.pointer (some ⟨p, 0, none⟩)] w1.drew fun e w2 => ∃ K, e = .returned (.pointer (some ⟨K, 0, none⟩)) ∧ Hid (Ext w1 w2 ∧ w2.heap[K]? = some (.cells #[.pointer (some ⟨p, 0, none⟩), .map (some (K + 1)), .slice none 0 0] 161 (0, 0)) ∧ w2.heap[K + 1]? = some (.map (keyRow (.pointer (some ⟨K, 0, none⟩))) 11)) ∧ w2.cell? ⟨w.heap.size, 0, none⟩ = some (.slice a n c) := by
    refine (newKeyer_any w1.drew p).mono ?_
    rintro _ w2 ⟨rfl, h1, h2, x2⟩
    have x2' := (Ext.refl w1).drew.trans x2
    exact ⟨_, rfl, ⟨x2', h1, h2⟩, x2'.cell c0⟩
  have x01h : Hid (Ext w w1) := x01
  clear hb0 hb1 hp1 hpr x0 x1 x01
  go_region_with_o (first
    | (go_at_call 67; refine hk1.mono ?_; rintro _ w2 ⟨K, rfl, HK, c2⟩)
    | (go_at_call 68; refine (hnk _ K (x01h.out.trans HK.out.1) HK.out.2.1 HK.out.2.2).mono ?_; rintro _ w3 ⟨rfl, x3⟩))
  all_goals have xe : Hid (Ext w w3) := (x01h.out.trans HK.out.1).trans x3
  all_goals clear x3
  all_goals go_wp2
  all_goals go_ret2
  all_goals exact ⟨rfl, xe.out⟩
end Go.Proofs.YtfiijlmpfpmgiaaGreatDoor
