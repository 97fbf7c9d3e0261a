/-
  The name of keyed's text in alive: plain facts.
-/
import Derived.Test.YthifcfdbifhanaaGreatDoorNprint
import Derived.Test.YthifcfdbifhanaaGreatDoorNmnToOrd
import Derived.Test.YthifcfdbifhanaaGreatDoorNparseToShelf3
import Derived.Test.YthifcfdbifhanaaGreatDoorXappToNtx
import Derived.Test.YthifcfdbifhanaaGreatDoorScl
import Derived.Shelf.Slices.Cells
namespace Go.Proofs.YthifcfdbifhanaaGreatDoor
open Go.RowKit

def sK : ByteArray := ⟨#[67, 78, 61, 65, 100, 97, 32, 32, 66, 44, 111, 117, 61, 120]⟩
def ptsK : List (List Av) := [[⟨⟨#[67, 78]⟩, ⟨#[65, 100, 97, 32, 32, 66]⟩⟩], [⟨⟨#[111, 117]⟩, ⟨#[120]⟩⟩]]
set_option maxRecDepth 100000 in
theorem rGo_K0 : (rGo sK 60 0 ⟨0, ⟨#[]⟩, 0, [], []⟩).map (fun x => (x.1, x.2.pts)) = some (0, ptsK) := by kernel_rfl
theorem rGo_K : ∃ r, rGo sK 60 0 ⟨0, ⟨#[]⟩, 0, [], []⟩ = some (0, r) ∧ r.pts = ptsK := by
  have h := rGo_K0
  match hx : rGo sK 60 0 ⟨0, ⟨#[]⟩, 0, [], []⟩ with
  | none => rw [hx] at h; cases h
  | some (a, r) =>
    rw [hx] at h
    simp only [Option.map_some, Option.some.injEq, Prod.mk.injEq] at h
    obtain ⟨rfl, h2⟩ := h
    exact ⟨r, rfl, h2⟩
set_option maxRecDepth 100000 in
theorem print_K : printP dz1 ptsK = (byt sK, 0) := by decide
/-- the second text of alive, and its name -/
def sA : ByteArray := ⟨#[99, 110, 61, 65, 100, 97, 32, 92, 50, 66, 32, 120, 43, 111, 117, 61, 97, 92, 44, 98, 44, 111, 117, 61]⟩
def tA : ByteArray := ⟨#[99, 110, 61, 65, 100, 97, 32, 92, 43, 32, 120, 43, 111, 117, 61, 97, 92, 44, 98, 44, 111, 117, 61]⟩
def ptsA : List (List Av) := [[⟨⟨#[99, 110]⟩, ⟨#[65, 100, 97, 32, 43, 32, 120]⟩⟩, ⟨⟨#[111, 117]⟩, ⟨#[97, 44, 98]⟩⟩], [⟨⟨#[111, 117]⟩, ⟨#[]⟩⟩]]
set_option maxRecDepth 100000 in
theorem rGo_A0 : (rGo sA 60 0 ⟨0, ⟨#[]⟩, 0, [], []⟩).map (fun x => (x.1, x.2.pts)) = some (0, ptsA) := by kernel_rfl
theorem rGo_A : ∃ r, rGo sA 60 0 ⟨0, ⟨#[]⟩, 0, [], []⟩ = some (0, r) ∧ r.pts = ptsA := by
  have h := rGo_A0
  match hx : rGo sA 60 0 ⟨0, ⟨#[]⟩, 0, [], []⟩ with
  | none => rw [hx] at h; cases h
  | some (a, r) =>
    rw [hx] at h
    simp only [Option.map_some, Option.some.injEq, Prod.mk.injEq] at h
    obtain ⟨rfl, h2⟩ := h
    exact ⟨r, rfl, h2⟩
set_option maxRecDepth 100000 in
theorem print_A : printP dz1 ptsA = (byt tA, 0) := by decide
theorem run_low (s : ByteArray) (hs : s.size ≤ 65536) (h : ∀ b ∈ byt s, b.toNat < 128) : ∀ k, k < s.size → RunAt (s.extract k s.size) := by
  intro k hk
  refine runSize_ascii _ (by rw [ByteArray.size_extract]; omega) (fun b hb => h b ?_)
  rw [byt_extract] at hb
  exact List.mem_of_mem_drop (List.mem_of_mem_take hb)
theorem dec_low (s : ByteArray) (h : ∀ b ∈ byt s, b < 128) : ∀ k, k < s.size → DecAt (s.extract k s.size) (dz1 ((byt s).drop k)) := by
  intro k hk
  have hl : k < (byt s).length := by rw [byt_length]; exact hk
  have e : byt (s.extract k s.size) = (byt s)[k] :: (byt s).drop (k + 1) := by
    rw [byt_extract, List.take_of_length_le (by rw [List.length_drop, byt_length]; omega), List.drop_eq_getElem_cons hl]
  exact dec_ascii _ _ _ e (h _ (List.getElem_mem _))
end Go.Proofs.YthifcfdbifhanaaGreatDoor

/-
  name.nameKey, where each part has a key.
-/
namespace Go.Proofs.YthifcfdbifhanaaGreatDoor
open Go.RowKit

theorem reverseS (b off n c : Nat) (Sx : Nat → ByteArray) (w : World) (hbig : n ≤ 9223372036854775807) (hc : ∀ i, i < n → w.cell? ⟨b, off + i, none⟩ = some (.string (Sx i))) (hf : ∀ j, j < n → w.frozen? ⟨b, off + j, none⟩ = false) :
    Calls Tryz.prog 89 #[.slice (some ⟨b, off, none⟩) n c] w fun e w' => e = .returned (.tuple #[]) ∧ ∃ q, w' = (w.drewN q).setCells b off ((Lib.strsOf Sx n).reverse.map encStr) := Any.slices_Reverse_string_cells Tryz.laysNm217 b off n c Sx w hbig hc hf
theorem joinS (bk o c : Nat) (xs : List ByteArray) (sep : ByteArray) (w : World) (hcells : ∀ (j : Nat) x, xs[j]? = some x → w.cell? ⟨bk, o + j, none⟩ = some (.string x)) (hbk : bk < w.heap.size) (hN : xs.length ≤ 140737488355328) (hcap : xs.length ≤ c) (hlen : (Lib.join (xs.map (·.data.toList)) sep.data.toList).length ≤ 140737488355328) :
    Calls Tryz.prog 90 #[.slice (some ⟨bk, o, none⟩) xs.length c, .string sep] w fun e w' => e = .returned (.string ⟨(Lib.join (xs.map (·.data.toList)) sep.data.toList).toArray⟩) ∧ Below w.heap.size w w' := Any.strings_Join Tryz.lays156 Tryz.Builder_Extra_156 bk o c xs sep w hcells hbk hN hcap hlen
theorem strs_rev (ks : List ByteArray) : (Lib.strsOf (fun i => ks.getD i ⟨#[]⟩) ks.length).reverse.map encStr = ks.reverse.map (fun s => Value.string s) := by
  have e : Lib.strsOf (fun i => ks.getD i ⟨#[]⟩) ks.length = ks.map byt := by
    unfold Lib.strsOf
    apply List.ext_getElem
    · simp
    · intro i h1 h2
      have h3 : i < ks.length := by simpa using h2
      simp [h3, byt]
  rw [e, ← List.map_reverse, List.map_map]
  apply List.map_congr_left
  intro s _
  show Value.string (str (byt s)) = _
  rw [str_byt]
theorem join_none (xs : List ByteArray) : Lib.join (xs.map (·.data.toList)) (⟨#[]⟩ : ByteArray).data.toList = (xs.map byt).flatten := by
  have e : ∀ l : List (List UInt8), Lib.join l [] = l.flatten := by
    intro l
    unfold Lib.join
    induction l with
    | nil => rfl
    | cons a l ih =>
      cases l with
      | nil => simp [List.intercalate]
      | cons b l => 
        simp only [List.intercalate, List.intersperse] at ih ⊢
        simp only [List.flatten_cons, List.nil_append] at ih ⊢
        rw [ih]
  exact e _
set_option maxRecDepth 100000 in
set_option maxHeartbeats 4000000 in
theorem nameKey_ok (w : World) (K : Nat) (qv : Value) (us : List Value) (pts : List (List Av)) (hv : NmIn w qv us pts) (ks : List ByteArray) (hkl : ks.length = pts.length) (hpos : 0 < pts.length) (hn : pts.length ≤ 64) (hsz : ((ks.reverse.map byt).flatten).length ≤ 1000000000)
    (hpk : ∀ i (h : i < us.length) (h' : i < ks.length) w1, Ext w w1 → Calls Tryz.prog 88 #[.pointer (some ⟨K, 0, none⟩), .agg #[us[i]]] w1 fun e w' => e = .returned (.tuple #[.string ks[i], .int .i64 0]) ∧ Ext w1 w') :
    Calls Tryz.prog 58 #[.pointer (some ⟨K, 0, none⟩), .agg #[qv]] w fun e w' => e = .returned (.tuple #[.string (str (ks.reverse.map byt).flatten), .int .i64 0]) ∧ Ext w w' := by
  have hsl := hv.sl
  obtain ⟨a, n, c, rfl, hnu⟩ := hsl.shape
  obtain ⟨hlen0, hnc, hnm⟩ := hsl.len
  have hnk : Hid (n = ks.length) := by show _ = _; rw [hlen0, hv.len, hkl]
  have hnp : Hid (n = pts.length) := by show _ = _; rw [hlen0, hv.len]
  have hn64 : n ≤ 64 := by rw [hnp.out]; exact hn
  have hn0 : 0 < n := by rw [hnp.out]; exact hpos
  clear hlen0 hsl
  have x0 := (Ext.refl w).alloc (.cells #[.slice a n c] 29)
  go_enter Tryz.func58, Tryz.ntmps58
  go_wp2
  go_loopw [6, 14] (fun v i wr => ∃ k : Nat, k ≤ n ∧ i = .int .i64 k ∧ Hid (RowE 9 encS wr (fun b => w.heap.size ≤ b) v (ks.take k)) ∧ Ext w wr) (fun _ i _ => n - (intOf i).toNat)
  case atStart => exact ⟨0, Nat.zero_le _, rfl, row_nil _ _ _ _, x0⟩
  case round =>
    obtain ⟨k, hk, rfl, HR, hx⟩ := hrel
    by_cases hlt : k < n
    · have hlt' : (k : Int) < (n : Int) := by omega
      have hkp : k < pts.length := by rw [← hnp.out]; exact hlt
      have hku : k < us.length := by rw [hv.len]; exact hkp
      have hkk : k < ks.length := by rw [hkl]; exact hkp
      obtain ⟨g, o, rfl, e0⟩ := (hv.ext hx).sl.at k hku
      obtain ⟨ua, un, uc, hu, _⟩ := (hv.pts k hku hkp).shape
      have hp := hpk k hku hkk (wr.alloc (.cells #[us[k]] 32)) (hx.alloc _)
      rw [hu] at e0 hp
      simp only [id] at e0
      have hR := HR.out
      obtain ⟨ra, rc, hre⟩ := row_slice hR
      subst hre
      obtain ⟨kk, hkke⟩ : ∃ kk, kk = ks[k] := ⟨_, rfl⟩
      rw [← hkke] at hp
      have hkkh : Hid (kk = ks[k]) := hkke
      have hrl : (ks.take k).length = k := by rw [List.length_take]; omega
      have hrh : Hid (Row wr (fun b => w.heap.size ≤ b) 9 1 (.slice ra k rc) k ((ks.take k).map encS)) := by
        have h0 := hR; unfold RowE at h0; rw [hrl] at h0; exact h0
      rw [hrl]
      clear hpk hR HR hv hkke hu
      go_wp2_with (first | (go_at_call 88; refine hp.mono ?_; rintro _ w1 ⟨rfl, x1⟩) | (at_builtin; refine Hid.out ?_))
      refine wpList_rowpush rfl _ _ 22 9 _ 1 16 infoS6 Tryz.underlying22 rfl (by decide) (by rfl) w1 (fun b => w.heap.size ≤ b) (.slice ra k rc) k ((ks.take k).map encS) #[.string kk] (Row.ext hrh.out ((Ext.refl wr).alloc _ |>.trans x1)) (by rfl) 1 1 w1.heap.size (by rfl) (by rfl) (by rfl) (by intro u hu; simp only [List.mem_singleton] at hu; subst hu; rfl) (by decide) (by unfold maxLen; omega) (by omega) ?_
      intro g5 cap5 w5 r5 o5
      have hx1 := (hx.alloc _).trans x1
      go_wp2
      go_roundw
      · refine ⟨k + 1, hlt, by go_num, ?_, hx1.then o5 (fun b hb => hb)⟩
        refine rowE_of r5 (by rw [List.length_take]; omega) ?_ (fun b hb => hb.elim id (fun h' => by have := hx1.size; omega))
        rw [List.take_add_one, List.getElem?_eq_getElem hkk, List.map_append, ← hkkh.out]
        rfl
      · simp [intOf]; omega
    · have hlt' : ¬ (k : Int) < (n : Int) := by omega
      have hkn : k = n := by omega
      have hR := HR.out
      rw [hkn, List.take_of_length_le (by rw [← hnk.out]; exact Nat.le_refl _)] at hR
      obtain ⟨gr, cr, cur, hre, hcr, hfr, hgl, hgw, hbk, hcz⟩ : ∃ gr cr cur, u6 = .slice (some ⟨gr, 0, none⟩) n cr ∧ n ≤ cr ∧ (∀ j, wr.frozen? ⟨gr, j, none⟩ = false) ∧ gr < wr.heap.size ∧ w.heap.size ≤ gr ∧ wr.heap[gr]? = some (.cells cur 9 (0, 0)) ∧ cur.size = cr := by
        rcases hR.1.2 with ⟨_, h0⟩ | ⟨g', cap, cur, e, _, hg, h1, _, h3, _⟩
        · have := hnk.out; omega
        · refine ⟨g', cap, cur, by rw [e, ← hnk.out], by rw [hnk.out]; exact h1, fun j => by simp [World.frozen?, hg], (Array.getElem?_eq_some_iff.1 hg).1, hR.2 g' (by rw [e]; rfl), hg, by simpa using h3⟩
      subst hre
      have hcell : ∀ i (h : i < ks.length), wr.cell? ⟨gr, 0 + i, none⟩ = some (.string ks[i]) := by
        intro i h
        obtain ⟨g', o', e, hc⟩ := hR.sl.at i h
        simp only [Option.some.injEq, Addr.mk.injEq, and_true] at e
        obtain ⟨rfl, rfl⟩ := e
        exact hc
      have hrev := reverseS gr 0 n cr (fun i => ks.getD i ⟨#[]⟩) wr (by omega) (fun i hi => by
        have h : i < ks.length := by rw [← hnk.out]; exact hi
        rw [hcell i h]; simp [h]) (fun i _ => hfr _)
      rw [hnk.out] at hrev
      rw [strs_rev] at hrev
      rw [← hnk.out] at hrev
      have hrev2 : Calls Tryz.prog 89 #[.slice (some ⟨gr, 0, none⟩) n cr] wr fun e w' => e = .returned (.tuple #[]) ∧ Hid (Ext w w' ∧ gr < w'.heap.size ∧ ∀ j x, ks.reverse[j]? = some x → w'.cell? ⟨gr, 0 + j, none⟩ = some (.string x)) := by
        refine hrev.mono ?_
        rintro _ w' ⟨rfl, q, rfl⟩
        have hl : (ks.reverse.map (fun s => Value.string s)).length = n := by simp [hnk.out]
        have hh := heap_setCells_at gr 9 (0, 0) (ks.reverse.map (fun s => Value.string s)) 0 (wr.drewN q) cur.toList (by simpa using hbk) (by rw [hl]; simp; omega)
        refine ⟨rfl, (hx.drewN q).then (Only.setCells (S := fun b => b = gr) _ gr 0 _ rfl) (fun b hb => by omega), by rw [setCells_size]; exact hgl, fun j x hj => ?_⟩
        rw [Nat.zero_add, cell_of_row _ _ j _ _ _ hh]
        have hjl : j < ks.length := by
          rcases Nat.lt_or_ge j ks.length with h | h
          · exact h
          · rw [List.getElem?_eq_none (by simpa using h)] at hj; cases hj
        simp only [List.take_zero, List.nil_append, List.getElem?_toArray]
        rw [List.getElem?_append_left (by simpa using hjl), List.getElem?_map, hj]
        rfl
      clear hpk hv HR hrev hcell hR hbk
      go_wp2_with (go_at_call 89; refine hrev2.mono ?_; rintro _ w2 ⟨rfl, HX⟩; have hjn := joinS gr 0 cr ks.reverse ⟨#[]⟩ w2 HX.out.2.2 HX.out.2.1 (by rw [List.length_reverse, ← hnk.out]; omega) (by rw [List.length_reverse, ← hnk.out]; exact hcr) (by rw [join_none]; omega))
      rw [List.length_reverse, ← hnk.out, join_none] at hjn
      go_at_call 90
      refine hjn.mono ?_
      rintro _ w3 ⟨rfl, x3⟩
      go_wp2
      go_ret2
      exact ⟨by rw [List.map_reverse]; rfl, Below.trans HX.out.1 (Below.mono x3 HX.out.1.size)⟩
end Go.Proofs.YthifcfdbifhanaaGreatDoor

/-
  name.Key, where the name can be written and its parts have keys.
-/
namespace Go.Proofs.YthifcfdbifhanaaGreatDoor
open Go.RowKit

set_option maxRecDepth 100000 in
set_option maxHeartbeats 2000000 in
theorem Key_ok (w : World) (p : Nat) (qv : Value) (us : List Value) (pts : List (List Av)) (hv : NmIn w qv us pts) (x r : ByteArray)
    (hpr : ∀ w1, Ext w w1 → Calls Tryz.prog 25 #[.agg #[qv]] w1 fun e w' => e = .returned (.tuple #[.string x, .int .i64 0]) ∧ Ext w1 w')
    (hnk : ∀ w1 K, Ext w w1 → w1.heap[K]? = some (.cells #[.pointer (some ⟨p, 0, none⟩), .map (some (K + 1)), .slice none 0 0] 126 (0, 0)) → w1.heap[K + 1]? = some (.map (keyRow (.pointer (some ⟨K, 0, none⟩))) 11) →
      Calls Tryz.prog 58 #[.pointer (some ⟨K, 0, none⟩), .agg #[qv]] w1 fun e w' => e = .returned (.tuple #[.string r, .int .i64 0]) ∧ Ext w1 w') :
    Calls Tryz.prog 38 #[.pointer (some ⟨p, 0, none⟩), .agg #[qv]] w fun e w' => e = .returned (.tuple #[.string r, .int .i64 0]) ∧ Ext w w' := by
  have hmix : Tryz.prog.follows Departure.mixedOrders = true := by kernel_rfl
  obtain ⟨a, n, c, rfl, _⟩ := hv.sl.shape
  clear hv
  have x0 := (Ext.refl w).alloc (.cells #[.slice a n c] 29)
  have hb0 := heap_alloc_new w (.cells #[.slice a n c] 29)
  have hp1 := hpr _ x0
  go_enter Tryz.func38, Tryz.ntmps38
  go_upto_region 6 with (go_at_call 25; refine hp1.mono ?_; rintro _ w1 ⟨rfl, x1⟩)
  have x01 := x0.trans x1
  have hb1 := (x1.block _ (by simp)).trans hb0
  have c0 := cell_of_row _ _ 0 _ _ _ hb1
  simp only [List.getElem?_toArray, List.getElem?_cons_zero] at c0
  have hk1 : Calls Tryz.prog 57 #[.pointer (some ⟨p, 0, none⟩)] w1.drew fun e w2 => ∃ K, e = .returned (.pointer (some ⟨K, 0, none⟩)) ∧ Hid (Ext w1 w2 ∧ w2.heap[K]? = some (.cells #[.pointer (some ⟨p, 0, none⟩), .map (some (K + 1)), .slice none 0 0] 126 (0, 0)) ∧ w2.heap[K + 1]? = some (.map (keyRow (.pointer (some ⟨K, 0, none⟩))) 11)) ∧ w2.cell? ⟨w.heap.size, 0, none⟩ = some (.slice a n c) := by
    refine (newKeyer_any w1.drew p).mono ?_
    rintro _ w2 ⟨rfl, h1, h2, x2⟩
    have x2' := (Ext.refl w1).drew.trans x2
    exact ⟨_, rfl, ⟨x2', h1, h2⟩, x2'.cell c0⟩
  have x01h : Hid (Ext w w1) := x01
  clear hb0 hb1 hp1 hpr x0 x1 x01
  go_region_with_o (first
    | (go_at_call 57; refine hk1.mono ?_; rintro _ w2 ⟨K, rfl, HK, c2⟩)
    | (go_at_call 58; refine (hnk _ K (x01h.out.trans HK.out.1) HK.out.2.1 HK.out.2.2).mono ?_; rintro _ w3 ⟨rfl, x3⟩))
  all_goals have xe : Hid (Ext w w3) := (x01h.out.trans HK.out.1).trans x3
  all_goals clear x3
  all_goals go_wp2
  all_goals go_ret2
  all_goals exact ⟨rfl, xe.out⟩
end Go.Proofs.YthifcfdbifhanaaGreatDoor
