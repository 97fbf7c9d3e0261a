/-
  Arguments that come in: a slice of bytes (thin copy of t2's)
-/
import Derived.Test.YthjgfpkmfmoheaaGreatDoorBcard
import Derived.Test.YthjgfpkmfmoheaaGreatDoorBint
import Derived.SizedLaws
import Derived.Test.YthjgfpkmfmoheaaGreatDoorQP
import Derived.Test.YthjgfpkmfmoheaaGreatDoorQQ
import Derived.Test.YthjgfpkmfmoheaaGreatDoorQT
import Derived.Test.YthjgfpkmfmoheaaGreatDoorQS
import Derived.Test.YthjgfpkmfmoheaaGreatDoorQX
import Derived.Test.YthjgfpkmfmoheaaGreatDoorCards
import Derived.Test.YthjgfpkmfmoheaaGreatDoorTie
import Derived.Test.YthjgfpkmfmoheaaGreatDoorWit11e
namespace Go.Proofs.YthjgfpkmfmoheaaGreatDoor
open Go.ChangeShapes Go.WideShapes Go.ChangeAt Go.RowKit

set_option maxRecDepth 100000
theorem cells8 : Tryz.prog.cellsOf 5 = 1 := by kernel_rfl
theorem open_bytes {H : Type} {enc : TypeId × Value → H} {W : World} {base : Nat} {v : Value} {d : DataW H} {p : List MemPlace} (hval : Value.okWide Tryz.prog W .any base 22 v) (h : DataW.Trod enc Tryz.prog W 0 (fun _ => true) true 22 v d p) :
    ∃ l : List UInt8, Sl W v l ∧ ((d = .nil ∧ l = []) ∨ ∃ elems spare, d = .slice elems spare ∧ elems.length = l.length) := by
  obtain ⟨a1, len, cap, rfl⟩ := okWide_slice Tryz.underlying22 hval
  obtain ⟨fuel, hf⟩ := h
  rcases open_ints Tryz.underlying22 Tryz.underlying5 cells8 hf with ⟨hcs, hx⟩ | ⟨a, len', cap', zs, hcs, _, hl, hm, hz, hx, hcell, hwz⟩
  · simp [Value.cells] at hcs
    obtain ⟨rfl, rfl, rfl⟩ := hcs
    simp only [Prod.mk.injEq] at hx
    exact ⟨[], sl_nil rfl (by decide), .inl ⟨hx.1, rfl⟩⟩
  · simp [Value.cells] at hcs
    obtain ⟨rfl, rfl, rfl⟩ := hcs
    simp only [Prod.mk.injEq] at hx
    simp only [if_true] at hz
    have hlen : ((zs.take len).map fun n => UInt8.ofNat n.toNat).length = len := by simp; omega
    refine ⟨(zs.take len).map fun n => UInt8.ofNat n.toNat, ?_, .inr ⟨_, _, hx.1, by simp [lits]⟩⟩
    by_cases h0 : len = 0
    · subst h0
      simpa using sl_nil (w := W) (a := some a) rfl hm
    · obtain ⟨ab, ao, spot⟩ := a
      have hspot : spot = none := by simpa [Addr.add] using World.cell?_spot (hcell 0 (by omega))
      subst hspot
      refine sl_of hlen.symm hl hm fun j hj => ?_
      rw [hlen] at hj
      have hcj := hcell j (by omega)
      rw [Addr.add_lit] at hcj
      rw [hcj]
      have hb := range_u8 hwz j
      have e : zs.getD j 0 = zs[j]'(by omega) := by simp [List.getD, List.getElem?_eq_getElem (show j < zs.length by omega)]
      rw [List.getD_eq_getElem?_getD] at e
      rw [List.getD_eq_getElem?_getD]
      rw [e] at hb ⊢
      unfold B8
      congr 2
      simp only [List.getElem_map, List.getElem_take, UInt8.toNat_ofNat']
      omega

end Go.Proofs.YthjgfpkmfmoheaaGreatDoor

/-
  The document's own reader of packets: a filter, at every depth.
-/
namespace Go.Proofs.YthjgfpkmfmoheaaGreatDoor
open Go.RowKit Go.Shelf

theorem path_item {l : List UInt8} {m e p f : Nat} {t : Tl} (hhd : headL l m e = (t, 0)) : pathR l (f + 1) m e p = if 65536 < upP l ⟨t, m, t.fro⟩ p then .error (3, (m : Int)) else bindR (filterR (pathR l f) l ⟨t, m, t.fro⟩ (upP l ⟨t, m, t.fro⟩ p)) fun r => .ok ⟨r.1, r.2.1, t.til, r.2.2⟩ := by
  show bindR (itemR l m e) _ = _
  rw [itemR_yes (by rw [hhd]), hhd]
  rfl
theorem against_is (l : List UInt8) (x : Ix) (k : Int) (m til p : Nat) (hm : x.at_ = m) (hn : x.next = x.t.fro) : leafR (agO l x k (.ok x.t.fro)) m til p = bindR (bindR (againstR l x k) fun a => .ok (a, .nil, p)) fun r : OwnF × FT × Nat => .ok ⟨r.1, r.2.1, til, r.2.2⟩ := by
  have e : x.to x.t.fro = x := by rw [← hn]; rfl
  unfold leafR agO againstR
  rw [text_must (by decide), hm]
  show bindR (bindR (bindR (takeR l (x.to x.t.fro) 4) _) _) _ = _
  rw [e]
  cases takeR l x 4 with
  | error q => rfl
  | ok y =>
    simp only [bindR]
    cases textR l y with
    | error q => rfl
    | ok d =>
      simp only
      rw [text_must (by decide)]
      simp only [bindR]
      cases takeR l (x.to y.t.til) 4 with
      | error q => rfl
      | ok z =>
        simp only
        cases textR l z with
        | error q => rfl
        | ok u =>
          simp only
          unfold overO
          simp only [bindR]
          cases endR l (x.to z.t.til) with
          | error q => rfl
          | ok _ =>
            simp only
            cases checkedR { ownK k with desc := str d, value := str u } .nil m <;> rfl
theorem leaf_is (Q : Rs OwnF) (m til p : Nat) : leafR Q m til p = bindR (bindR Q fun b => bindR (checkedR b .nil m) fun a => .ok (a, .nil, p)) fun r : OwnF × FT × Nat => .ok ⟨r.1, r.2.1, til, r.2.2⟩ := by
  cases Q with
  | error q => rfl
  | ok b =>
    show bindR (checkedR b .nil m) _ = bindR (bindR (checkedR b .nil m) _) _
    cases checkedR b .nil m <;> rfl
theorem kid_is (k : Int) (til : Nat) (Q : Rs (List (OwnF × FT) × Nat)) : kidD k til Q = bindR (bindR Q fun r => .ok (ownK k, toFT r.1, r.2)) fun r : OwnF × FT × Nat => .ok ⟨r.1, r.2.1, til, r.2.2⟩ := by
  cases Q <;> rfl
theorem have_is {l : List UInt8} {t : Tl} {m til p : Nat} (ht : t.Fine) (hk : jTag t = 135) : leafR (haveO l ⟨t, m, t.fro⟩) m til p = bindR (bindR (textR l ⟨t, m, t.fro⟩) fun d => bindR (checkedR { ownK 7 with desc := str d } .nil m) fun a => .ok (a, .nil, p)) fun r : OwnF × FT × Nat => .ok ⟨r.1, r.2.1, til, r.2.2⟩ := by
  have hc : t.cons = false := by
    have h1 := ht.c
    have h2 := ht.n
    unfold jTag at hk
    by_cases hc : t.cons = true
    · rw [if_pos hc] at hk; omega
    · simpa using hc
  rw [leaf_is]
  unfold haveO textR
  simp only [hc]
  split
  · rfl
  · rfl

set_option maxHeartbeats 1000000 in
theorem dpath_all : ∀ (f : Nat), f ≤ 64 → ∀ (l : List UInt8) (R : Nat) (v : Value), l.length < 36028797018963968 → (0 < l.length → ∀ a n c, v = .slice (some a) n c → a.block ≠ R) → DSpec l R v f := by
  intro f
  induction f with
  | zero =>
    intro _ l R v hl hap w p a e hr hs hp hbd
    cases hq : headL l a e with
    | mk t er =>
      by_cases h0 : er = 0
      · subst h0
        obtain ⟨h1, h2, h3, h4, h5, h6⟩ := headL_ok l a e (by rw [hq])
        obtain ⟨m, rfl⟩ := Int.eq_ofNat_of_zero_le h1
        obtain ⟨e, rfl⟩ := Int.eq_ofNat_of_zero_le (Int.le_trans h1 h2)
        have hP : pathR l 0 m e p = .error (91, (m : Int)) := by show bindR (itemR l m e) _ = _; rw [itemR_yes (by rw [hq])]; rfl
        rw [hP]
        exact dq_deep l R v hl w p m e hr hs hbd t hq
      · have hP : pathR l 0 a e p = .error (er, a) := by show bindR (itemR l a e) _ = _; unfold itemR; rw [if_neg (by rw [hq]; exact h0), hq]; rfl
        rw [hP]
        exact dq_noitem l R v hl w p a e _ hr hs hbd t er h0 hq
  | succ f ih =>
    intro hf l R v hl hap w p a e hr hs hp hbd
    have hK := ih (by omega) l R v hl hap
    cases hq : headL l a e with
    | mk t er =>
      by_cases h0 : er = 0
      · subst h0
        obtain ⟨h1, h2, h3, h4, h5, h6⟩ := headL_ok l a e (by rw [hq])
        obtain ⟨m, rfl⟩ := Int.eq_ofNat_of_zero_le h1
        obtain ⟨e, rfl⟩ := Int.eq_ofNat_of_zero_le (Int.le_trans h1 h2)
        obtain ⟨hft, hbt, hxo, hte, hwin, hpos⟩ := head_in hl hq hbd
        have hap := hap hpos
        have hff : f < 64 := by omega
        rw [path_item hq]
        by_cases hk162 : jTag t = 162
        · have hu : upP l ⟨t, m, t.fro⟩ p = p := by unfold upP; rw [show bAt l (⟨t, m, t.fro⟩ : Ix).at_ = 162 from hbt.trans hk162, if_pos rfl]
          rw [hu, if_neg (by omega)]
          have hF : filterR (pathR l f) l ⟨t, m, t.fro⟩ p = bindR (onlyR (pathR l f) l ⟨t, m, t.fro⟩ p) fun r => .ok (ownK 2, toFT r.1, r.2) := by unfold filterR; simp only [show bAt l m = 162 from hbt.trans hk162]; rfl
          rw [hF, ← kid_is]
          exact dq_162 l R v hl hap f hff hK w p m e hr hs hp hbd t hq hk162
        · have hu : upP l ⟨t, m, t.fro⟩ p = p + 1 := by unfold upP; rw [if_neg (by rw [show bAt l (⟨t, m, t.fro⟩ : Ix).at_ = jTag t from hbt]; exact hk162)]
          rw [hu]
          by_cases hn : p < 65536
          · rw [if_neg (by omega)]
            have go : ∀ (k : Nat) (o : Rs (OwnF × FT × Nat)), jTag t = k → filterR (pathR l f) l ⟨t, m, t.fro⟩ (p + 1) = o → ∀ (P : Prop), (bAt l m = k → P) → P := fun k o hk _ P h => h (hbt.trans hk)
            by_cases k160 : jTag t = 160
            · rw [show filterR (pathR l f) l ⟨t, m, t.fro⟩ (p + 1) = bindR (kidsR (pathR l f) ⟨t, m, t.fro⟩ (p + 1)) fun r => .ok (ownK 0, toFT r.1, r.2) by unfold filterR; simp only [show bAt l m = 160 from hbt.trans k160]; rfl, ← kid_is]
              exact dq_many l R v hl hap f hff hK w p m e hr hs hp hbd t hq 160 0 (by omega) k160 hn
            by_cases k161 : jTag t = 161
            · rw [show filterR (pathR l f) l ⟨t, m, t.fro⟩ (p + 1) = bindR (kidsR (pathR l f) ⟨t, m, t.fro⟩ (p + 1)) fun r => .ok (ownK 1, toFT r.1, r.2) by unfold filterR; simp only [show bAt l m = 161 from hbt.trans k161]; rfl, ← kid_is]
              exact dq_many l R v hl hap f hff hK w p m e hr hs hp hbd t hq 161 1 (by omega) k161 hn
            by_cases k163 : jTag t = 163
            · rw [show filterR (pathR l f) l ⟨t, m, t.fro⟩ (p + 1) = bindR (againstR l ⟨t, m, t.fro⟩ 3) fun a => .ok (a, .nil, p + 1) by unfold filterR; simp only [show bAt l m = 163 from hbt.trans k163]; rfl, ← against_is l ⟨t, m, t.fro⟩ 3 m t.til (p + 1) rfl rfl]
              exact dq_two l R v hl hap f hff w p m e hr hs hp hbd t hq 163 3 (by omega) k163 hn
            by_cases k165 : jTag t = 165
            · rw [show filterR (pathR l f) l ⟨t, m, t.fro⟩ (p + 1) = bindR (againstR l ⟨t, m, t.fro⟩ 5) fun a => .ok (a, .nil, p + 1) by unfold filterR; simp only [show bAt l m = 165 from hbt.trans k165]; rfl, ← against_is l ⟨t, m, t.fro⟩ 5 m t.til (p + 1) rfl rfl]
              exact dq_two l R v hl hap f hff w p m e hr hs hp hbd t hq 165 5 (by omega) k165 hn
            by_cases k166 : jTag t = 166
            · rw [show filterR (pathR l f) l ⟨t, m, t.fro⟩ (p + 1) = bindR (againstR l ⟨t, m, t.fro⟩ 6) fun a => .ok (a, .nil, p + 1) by unfold filterR; simp only [show bAt l m = 166 from hbt.trans k166]; rfl, ← against_is l ⟨t, m, t.fro⟩ 6 m t.til (p + 1) rfl rfl]
              exact dq_two l R v hl hap f hff w p m e hr hs hp hbd t hq 166 6 (by omega) k166 hn
            by_cases k168 : jTag t = 168
            · rw [show filterR (pathR l f) l ⟨t, m, t.fro⟩ (p + 1) = bindR (againstR l ⟨t, m, t.fro⟩ 8) fun a => .ok (a, .nil, p + 1) by unfold filterR; simp only [show bAt l m = 168 from hbt.trans k168]; rfl, ← against_is l ⟨t, m, t.fro⟩ 8 m t.til (p + 1) rfl rfl]
              exact dq_two l R v hl hap f hff w p m e hr hs hp hbd t hq 168 8 (by omega) k168 hn
            by_cases k135 : jTag t = 135
            · rw [show filterR (pathR l f) l ⟨t, m, t.fro⟩ (p + 1) = bindR (textR l ⟨t, m, t.fro⟩) fun d => bindR (checkedR { ownK 7 with desc := str d } .nil m) fun a => .ok (a, .nil, p + 1) by unfold filterR; simp only [show bAt l m = 135 from hbt.trans k135]; rfl, ← have_is hft k135]
              exact dq_135 l R v hl hap f hff w p m e hr hs hp hbd t hq k135 hn
            by_cases k164 : jTag t = 164
            · rw [show filterR (pathR l f) l ⟨t, m, t.fro⟩ (p + 1) = bindR (partR l ⟨t, m, t.fro⟩) fun b => bindR (checkedR b .nil m) fun a => .ok (a, .nil, p + 1) by unfold filterR; simp only [show bAt l m = 164 from hbt.trans k164]; rfl, ← leaf_is]
              exact dq_part l R v hl hap f hff w p m e hr hs hp hbd t hq k164 hn
            by_cases k169 : jTag t = 169
            · rw [show filterR (pathR l f) l ⟨t, m, t.fro⟩ (p + 1) = bindR (ruleR l ⟨t, m, t.fro⟩) fun b => bindR (checkedR b .nil m) fun a => .ok (a, .nil, p + 1) by unfold filterR; simp only [show bAt l m = 169 from hbt.trans k169]; rfl, ← leaf_is]
              exact dq_rule l R v hl hap f hff w p m e hr hs hp hbd t hq k169 hn
            · rw [show filterR (pathR l f) l ⟨t, m, t.fro⟩ (p + 1) = .error (20, (m : Int)) by
                unfold filterR
                simp only [show bAt l m = jTag t from hbt]
                rw [if_neg k160, if_neg k161, if_neg hk162, if_neg k163, if_neg k165, if_neg k166, if_neg k168, if_neg k135, if_neg k164, if_neg k169]]
              exact dq_none l R v hl hap f hff w p m e hr hs hp hbd t hq _ rfl hn ⟨k160, k161, hk162, k163, k164, k165, k166, k168, k135, k169⟩
          · rw [if_pos (by omega)]
            exact dq_full l R v hl w p m e hr hs hbd (64 - (f + 1)) (by omega) (by omega) t hq hk162
      · have hP : pathR l (f + 1) a e p = .error (er, a) := by show bindR (itemR l a e) _ = _; unfold itemR; rw [if_neg (by rw [hq]; exact h0), hq]; rfl
        rw [hP]
        exact dq_noitem l R v hl w p a e _ hr hs hbd t er h0 hq
end Go.Proofs.YthjgfpkmfmoheaaGreatDoor

/-
  The document's own reader of packets: Take.
-/
namespace Go.Proofs.YthjgfpkmfmoheaaGreatDoor
open Go.RowKit Go.Shelf

theorem results_c4 {fn : Func} {pp u s t : Tmp} (h : fn.results = #[.cell pp 27, .tmp u, .tmp s, .tmp t]) (tmps : Array Value) (w : World) (g : Nat) (f : F9) (hp : tmps.getD pp undef = .pointer (some ⟨g, 0, none⟩)) (hc : FlT w g f) : (results fn tmps).run Tryz.prog w = .ok (.tuple #[.agg f.arr, tmps.getD u undef, tmps.getD s undef, tmps.getD t undef]) w := by
  have hl := run_loadCells_list (P := Tryz.prog) w ⟨g, 0, none⟩ f.arr.toList (by
    intro j v hv
    rw [Addr.add_lit, Nat.zero_add, cell_of_row _ _ j _ _ _ hc]
    simpa [F9.arr] using hv)
  have hl9 : (loadCells ⟨g, 0, none⟩ 9).run Tryz.prog w = .ok f.arr w := hl
  have hag := Tryz.isAgg27
  have hsz : ∀ w, (sizeOf 27).run Tryz.prog w = .ok 9 w := Tryz.sizeOf27
  have hp' : tmps[pp]?.getD undef = .pointer (some ⟨g, 0, none⟩) := by simpa using hp
  simp [results, h, hp', asAddr, loadVar, Sem.run_bind, hag, hsz, hl9, Result.andThen]
/-- how the call ends -/
theorem tk_end {w wz : World} {Z : Nat} {f : F9} {n c a : Int} {o : Rs PR} (z : FlT wz Z F9.zero) (hx : Only (fun g => g = Z) w (putF wz Z f)) (hZ : w.heap.size ≤ Z) (tm : Array Value) (h6 : tm.getD 6 undef = .pointer (some ⟨Z, 0, none⟩)) (h7 : tm.getD 7 undef = .int .i64 n) (h8 : tm.getD 8 undef = .int .i64 c) (h9 : tm.getD 9 undef = .int .i64 a)
    (hP : TakeP w (putF wz Z f) o (.returned (.tuple #[.agg f.arr, .int .i64 n, .int .i64 c, .int .i64 a]))) :
    bodyPost Tryz.prog Tryz.f14 (fun x w' => Ext w w' ∧ TakeP w w' o x) Exit.ret { tmps := tm, defers := [] } (putF wz Z f) := by
  refine bodyPost_ret (results_c4 rfl _ _ Z _ h6 (z.put f)) rfl ?_
  rw [h7, h8, h9]
  exact ⟨(Ext.refl w).then hx (fun g hg => by omega), hP⟩

set_option maxRecDepth 100000 in
set_option maxHeartbeats 4000000 in
theorem rTake_any (w : World) (v : Value) (l : List UInt8) (a e : Int) (hs : Sl w v l) (hl : l.length < 36028797018963968) (h1 : -9223372036854775808 ≤ a ∧ a < 9223372036854775808) (h2 : -9223372036854775808 ≤ e ∧ e < 9223372036854775808) :
    Calls Tryz.prog 14 #[v, .int .i64 a, .int .i64 e] w fun x w' => Ext w w' ∧ TakeP w w' (takeT l a e) x := by
  have hmix : Tryz.prog.follows Departure.mixedOrders = true := by kernel_rfl
  obtain ⟨sa, sn, sc, rfl⟩ := hs.lit
  have hsn : sn = l.length := by obtain ⟨a', c', e', _⟩ := hs; simp only [Value.slice.injEq] at e'; exact e'.2.1
  obtain ⟨B, hB⟩ : ∃ B : Bool, Hid (B = decide (0 ≤ a ∧ a ≤ e ∧ e ≤ l.length ∧ 1048576 < e - a)) := ⟨_, rfl⟩
  have hV : Hid (takeT l a e = if B = true then .error (3, 0) else pathR l 64 a e 0) := by
    show _ = _
    unfold takeT
    rw [hB.out]
    by_cases hc : 0 ≤ a ∧ a ≤ e ∧ e ≤ l.length ∧ 1048576 < e - a
    · rw [if_pos hc, if_pos (decide_eq_true hc)]
    · rw [if_neg hc, if_neg (by simpa using hc)]
  have z0 := fl_new w
  have x0 := (Ext.refl w).alloc (.cells #[.int .i8 0, .slice none 0 0, .string ⟨#[]⟩, .string ⟨#[]⟩, .string ⟨#[]⟩, .slice none 0 0, .string ⟨#[]⟩, .string ⟨#[]⟩, .bool false] 27)
  have hsz0 : Hid ((w.alloc (.cells #[.int .i8 0, .slice none 0 0, .string ⟨#[]⟩, .string ⟨#[]⟩, .string ⟨#[]⟩, .slice none 0 0, .string ⟨#[]⟩, .string ⟨#[]⟩, .bool false] 27)).heap.size = w.heap.size + 1) := World.size_alloc _ _
  have hsnh : Hid (sn = l.length) := hsn
  clear hsn
  go_enter Tryz.func14, Tryz.ntmps14
  go_upto_region 1 with fail
  generalize World.alloc w _ = w1 at z0 x0 hsz0 ⊢
  obtain ⟨Z, hZ⟩ : ∃ Z, Hid (Z = w.heap.size) := ⟨_, rfl⟩
  rw [← hZ.out] at z0 ⊢
  have hZw : w.heap.size ≤ Z := by rw [hZ.out]; exact Nat.le_refl _
  go_cut [31] from 13 to 31 (fun t wx => t = .bool B ∧ wx = w1)
  case first =>
    clear hV
    by_cases k0 : 0 ≤ a
    · by_cases k1 : a ≤ e
      · by_cases k2 : e ≤ (sn : Int)
        · have hw : IntKind.i64.wrap (e - a) = e - a := by rw [IntKind.wrap_i64]; omega
          by_cases k3 : 1048576 < e - a
          · have hBt : B = true := by rw [hB.out, decide_eq_true_eq]; have := hsnh.out; omega
            subst hBt
            go_wp2
            go_meet
            exact ⟨rfl, rfl⟩
          · have hBt : B = false := by rw [hB.out, decide_eq_false_iff_not]; omega
            subst hBt
            go_wp2
            go_meet
            exact ⟨rfl, rfl⟩
        · have hBt : B = false := by rw [hB.out, decide_eq_false_iff_not]; have := hsnh.out; omega
          subst hBt
          go_wp2
          go_meet
          exact ⟨rfl, rfl⟩
      · have hBt : B = false := by rw [hB.out, decide_eq_false_iff_not]; omega
        subst hBt
        go_wp2
        go_meet
        exact ⟨rfl, rfl⟩
    · have hBt : B = false := by rw [hB.out, decide_eq_false_iff_not]; omega
      subst hBt
      go_wp2
      go_meet
      exact ⟨rfl, rfl⟩
  case rest =>
  obtain ⟨rfl, rfl⟩ := hcut
  cases B with
  | true =>
    have hT : Hid (takeT l a e = .error (3, 0)) := by show _ = _; rw [hV.out]; rfl
    obtain ⟨d0, d1, d2, d3, d4, d5, d6, d7, d8, dz⟩ := z0.cells
    simp only [F9.zero] at d0 d1 d2 d3 d4 d5 d6 d7 d8
    have dz0 := dz 0
    have dz1 := dz 1
    have dz2 := dz 2
    have dz3 := dz 3
    have dz4 := dz 4
    have dz5 := dz 5
    have dz6 := dz 6
    have dz7 := dz 7
    have dz8 := dz 8
    have hend : Hid _ := tk_end (w := w) (wz := wc) (f := F9.zero) (n := 0) (c := 3) (a := 0) (o := takeT l a e) z0 ((x0.only (S := fun g => g = Z)).then (put_only wc Z F9.zero)) hZw
    clear hV hB dz z0
    go_wp2
    exact hend.out _ rfl rfl rfl rfl (takeP_err hT.out rfl)
  | false =>
    have hT : Hid (takeT l a e = pathR l 64 a e 0) := by show _ = _; rw [hV.out]; rfl
    have hbd : 0 ≤ a → a ≤ e → e ≤ l.length → e - a ≤ 1048576 := by
      intro q0 q1 q2
      have := hB.out
      have := (decide_eq_false_iff_not.1 this.symm)
      omega
    clear hV hB
    have x2 := (Ext.refl wc).alloc (.cells #[.slice sa sn sc, .int .i64 0, .int .i64 0, .int .i64 0] 59)
    have rd2 : RfB (wc.alloc (.cells #[.slice sa sn sc, .int .i64 0, .int .i64 0, .int .i64 0] 59)) wc.heap.size (.slice sa sn sc) 0 0 0 := heap_alloc_new _ _
    have hPs := dpath_all 64 (Nat.le_refl _) l wc.heap.size (.slice sa sn sc) hl (fun hl0 aa nn cc ev => by
      obtain ⟨g, o, ee, hc, _⟩ := hs.byte 0 hl0
      simp only [Value.slice.injEq] at ev
      obtain ⟨rfl, _, _⟩ := ev
      cases ee
      have := World.block_lt_of_cell? _ _ hc
      have := x0.size
      simp only at *
      omega) (wc.alloc (.cells #[.slice sa sn sc, .int .i64 0, .int .i64 0, .int .i64 0] 59)) 0 a e rd2 ((hs.ext x0).ext x2) (Nat.zero_le _) hbd
    have e64 : ((64 - 64 : Nat) : Int) = 0 := rfl
    rw [e64] at hPs
    have z2 := z0.ext x2
    have y2 := x0.trans x2
    have hRe : Hid (wc.heap.size = w.heap.size + 1) := hsz0
    have hRz : Hid ((wc.alloc (.cells #[.slice sa sn sc, .int .i64 0, .int .i64 0, .int .i64 0] 59)).heap.size = w.heap.size + 2) := by show _ = _; rw [World.size_alloc, hRe.out]
    go_upto_region 4 with fail
    generalize World.alloc wc _ = w2 at z2 y2 hPs rd2 hRz ⊢
    generalize hRw : wc.heap.size = R at hPs rd2 hRe ⊢
    have hRz2 : ¬ Z = R := by rw [hRe.out, hZ.out]; omega
    clear x2 z0 x0 hsz0 hs
    go_wp2_with fail
    go_at_call 34
    refine hPs.mono ?_
    rintro _ w3 ⟨o3, f, nx, rfl, he⟩
    try dsimp only
    have z3 := z2.only o3 hRz2
    have y3 : Only (fun g => g = R) w w3 := y2.only.then o3
    obtain ⟨kind, ka, kn, kc, desc, value, start, ma, mn, mc, fin, rule, dn⟩ := f
    simp only [F9.arr]
    have f4 : FlT (w3.alloc (.cells #[.int .i8 kind, .slice ka kn kc, .string desc, .string value, .string start, .slice ma mn mc, .string fin, .string rule, .bool dn] 27)) w3.heap.size ⟨kind, ka, kn, kc, desc, value, start, ma, mn, mc, fin, rule, dn⟩ := heap_alloc_new _ _
    have x4 := (Ext.refl w3).alloc (.cells #[.int .i8 kind, .slice ka kn kc, .string desc, .string value, .string start, .slice ma mn mc, .string fin, .string rule, .bool dn] 27)
    have hz4 := z3.ext x4
    have hz4h : Hid (w.heap.size ≤ Z ∧ ¬ Z = R) := ⟨hZw, hRz2⟩
    have y4 : Only (fun g => g = R) w (w3.alloc (.cells #[.int .i8 kind, .slice ka kn kc, .string desc, .string value, .string start, .slice ma mn mc, .string fin, .string rule, .bool dn] 27)) := y3.ext x4
    have hRw : w.heap.size ≤ R := by rw [hRe.out]; omega
    cases hp : pathR l 64 a e 0 with
    | error q =>
      rw [hp] at he
      obtain ⟨q0, n3, r3⟩ := he
      have r4 := r3.ext x4
      obtain ⟨e0, e1, e2, e3, ez⟩ := r4.cells
      have hq0 : ((q.1 : Int) != 0) = true := by simp; exact q0
      have hT2 : Hid (takeT l a e = .error q) := by show _ = _; rw [hT.out, hp]
      obtain ⟨d0, d1, d2, d3, d4, d5, d6, d7, d8, dz⟩ := hz4.cells
      simp only [F9.zero] at d0 d1 d2 d3 d4 d5 d6 d7 d8
      clear ez x4 z3 y3 hT hp r3 q0 hPs f4
      go_upto_region 5 with fail
      generalize World.alloc w3 _ = w4 at hz4 y4 e0 e1 e2 e3 d0 d1 d2 d3 d4 d5 d6 d7 d8 dz r4 ⊢
      go_upto_region 6 with fail
      refine wp_region_last (fun W => RfB W R (.slice sa sn sc) n3 q.1 q.2) 12 hmix ?_
      change wpAnyT _ _ _ _ _ _ 13 _ _ w4.drew
      have hSw : RfB w4.drew R (.slice sa sn sc) n3 q.1 q.2 := r4
      have yE : Ext w4 w4.drew := (Ext.refl w4).drew
      have hz5 := hz4.ext yE
      have y5 := y4.ext yE
      clear e0 e1 e2 e3 d0 d1 d2 d3 d4 d5 d6 d7 d8 dz hz4 y4 yE r4
      generalize w4.drew = w5 at hSw hz5 y5 ⊢
      refine wpAnyT_take (i := 0) (v := ?_) rfl (by kernel_rfl) (by kernel_rfl) (by kernel_rfl) (by kernel_rfl) (fun _ _ _ h => h) (Or.inl ⟨by rfl, ?hy0⟩) hSw ?_
      case hy0 => (intro w' hSw'; obtain ⟨k0, k1, k2, k3, -⟩ := RfB.cells hSw'; go_simp; try with_reducible rfl)
      dsimp only [Act.put, List.getElem_toArray, List.getElem_cons_zero, List.getElem_cons_succ]
      simp only [List.setIfInBounds_toArray, List.set_cons_zero, List.set_cons_succ]
      refine wpAnyT_take (i := 1) (v := ?_) rfl (by kernel_rfl) (by kernel_rfl) (by kernel_rfl) (by kernel_rfl) (fun _ _ _ h => h) (Or.inl ⟨by rfl, ?hy1⟩) hSw ?_
      case hy1 => (intro w' hSw'; obtain ⟨k0, k1, k2, k3, -⟩ := RfB.cells hSw'; go_simp; try with_reducible rfl)
      dsimp only [Act.put, List.getElem_toArray, List.getElem_cons_zero, List.getElem_cons_succ]
      simp only [List.setIfInBounds_toArray, List.set_cons_zero, List.set_cons_succ]
      refine wpAnyT_take (i := 2) (v := ?_) rfl (by kernel_rfl) (by kernel_rfl) (by kernel_rfl) (by kernel_rfl) (fun _ _ _ h => h) (Or.inl ⟨by rfl, ?hy2⟩) hSw ?_
      case hy2 => (intro w' hSw'; obtain ⟨k0, k1, k2, k3, -⟩ := RfB.cells hSw'; go_simp; try with_reducible rfl)
      dsimp only [Act.put, List.getElem_toArray, List.getElem_cons_zero, List.getElem_cons_succ]
      simp only [List.setIfInBounds_toArray, List.set_cons_zero, List.set_cons_succ]
      refine wpAnyT_take (i := 3) (v := ?_) rfl (by kernel_rfl) (by kernel_rfl) (by kernel_rfl) (by kernel_rfl) (fun _ _ _ h => h) (Or.inl ⟨by rfl, ?hy3⟩) hSw ?_
      case hy3 => (intro w' hSw'; obtain ⟨k0, k1, k2, k3, -⟩ := RfB.cells hSw'; go_simp; try with_reducible rfl)
      dsimp only [Act.put, List.getElem_toArray, List.getElem_cons_zero, List.getElem_cons_succ]
      simp only [List.setIfInBounds_toArray, List.set_cons_zero, List.set_cons_succ]
      refine wpAnyT_take (i := 4) (v := ?_) rfl (by kernel_rfl) (by kernel_rfl) (by kernel_rfl) (by kernel_rfl) (fun _ _ _ h => h) (Or.inl ⟨by rfl, ?hy4⟩) hSw ?_
      case hy4 => (intro w' hSw'; obtain ⟨k0, k1, k2, k3, -⟩ := RfB.cells hSw'; go_simp; try with_reducible rfl)
      dsimp only [Act.put, List.getElem_toArray, List.getElem_cons_zero, List.getElem_cons_succ]
      simp only [List.setIfInBounds_toArray, List.set_cons_zero, List.set_cons_succ]
      refine wpAnyT_take (i := 5) (v := ?_) rfl (by kernel_rfl) (by kernel_rfl) (by kernel_rfl) (by kernel_rfl) (fun _ _ _ h => h) (Or.inl ⟨by rfl, ?hy5⟩) hSw ?_
      case hy5 => (intro w' hSw'; obtain ⟨k0, k1, k2, k3, -⟩ := RfB.cells hSw'; go_simp; try with_reducible rfl)
      dsimp only [Act.put, List.getElem_toArray, List.getElem_cons_zero, List.getElem_cons_succ]
      simp only [List.setIfInBounds_toArray, List.set_cons_zero, List.set_cons_succ]
      refine wpAnyT_take (i := 6) (v := ?_) rfl (by kernel_rfl) (by kernel_rfl) (by kernel_rfl) (by kernel_rfl) (fun _ _ _ h => h) (Or.inl ⟨by rfl, ?hy6⟩) hSw ?_
      case hy6 => (intro w' hSw'; obtain ⟨k0, k1, k2, k3, -⟩ := RfB.cells hSw'; go_simp; try with_reducible rfl)
      dsimp only [Act.put, List.getElem_toArray, List.getElem_cons_zero, List.getElem_cons_succ]
      simp only [List.setIfInBounds_toArray, List.set_cons_zero, List.set_cons_succ]
      refine wpAnyT_take (i := 7) (v := ?_) rfl (by kernel_rfl) (by kernel_rfl) (by kernel_rfl) (by kernel_rfl) (fun _ _ _ h => h) (Or.inl ⟨by rfl, ?hy7⟩) hSw ?_
      case hy7 => (intro w' hSw'; obtain ⟨k0, k1, k2, k3, -⟩ := RfB.cells hSw'; go_simp; try with_reducible rfl)
      dsimp only [Act.put, List.getElem_toArray, List.getElem_cons_zero, List.getElem_cons_succ]
      simp only [List.setIfInBounds_toArray, List.set_cons_zero, List.set_cons_succ]
      refine wpAnyT_take (i := 8) (v := ?_) rfl (by kernel_rfl) (by kernel_rfl) (by kernel_rfl) (by kernel_rfl) (fun _ _ _ h => h) (Or.inl ⟨by rfl, ?hy8⟩) hSw ?_
      case hy8 => (intro w' hSw'; obtain ⟨k0, k1, k2, k3, -⟩ := RfB.cells hSw'; go_simp; try with_reducible rfl)
      dsimp only [Act.put, List.getElem_toArray, List.getElem_cons_zero, List.getElem_cons_succ]
      simp only [List.setIfInBounds_toArray, List.set_cons_zero, List.set_cons_succ]
      obtain ⟨d0, d1, d2, d3, d4, d5, d6, d7, d8, dz⟩ := hz5.cells
      simp only [F9.zero] at d0 d1 d2 d3 d4 d5 d6 d7 d8
      have dz0 := dz 0
      have dz1 := dz 1
      have dz2 := dz 2
      have dz3 := dz 3
      have dz4 := dz 4
      have dz5 := dz 5
      have dz6 := dz 6
      have dz7 := dz 7
      have dz8 := dz 8
      have k := put_only w5 Z F9.zero
      have hX : Only (fun g => g = Z) w (putF w5 Z F9.zero) := ⟨k.os.trans y5.os, k.tape.trans y5.tape, k.output.trans y5.output, Nat.le_trans y5.size k.size, fun g hg hn => (k.block g (Nat.lt_of_lt_of_le hg y5.size) hn).trans (y5.block g hg (by omega))⟩
      have hSz : Hid (RfB (putF w5 Z F9.zero) R (.slice sa sn sc) n3 q.1 q.2) := hSw.only k (fun e => hz4h.out.2 e.symm)
      have hend : Hid _ := tk_end (w := w) (wz := w5) (f := F9.zero) (n := 0) (c := q.1) (a := q.2) (o := takeT l a e) hz5 hX hz4h.out.1
      have hPh : Hid _ := takeP_err (w := w) (w' := putF w5 Z F9.zero) hT2.out rfl
      clear dz hz5 hX k hSw
      refine wpAnyT_one (i := 9) rfl (by kernel_rfl) ?_
      rw [if_pos (by rfl)]
      go_simp
      refine ⟨hSz.out, ?_⟩
      refine wpAnyT_one (i := 10) rfl (by kernel_rfl) ?_
      rw [if_pos (by rfl)]
      go_simp
      refine ⟨hSz.out, ?_⟩
      refine wpAnyT_one (i := 11) rfl (by kernel_rfl) ?_
      rw [if_pos (by rfl)]
      go_simp
      refine ⟨hSz.out, ?_⟩
      refine wpAnyT_one (i := 12) rfl (by kernel_rfl) ?_
      rw [if_pos (by rfl)]
      go_simp
      refine wpAnyT_done (by kernel_rfl) ?_
      clear d0 d1 d2 d3 d4 d5 d6 d7 d8 dz0 dz1 dz2 dz3 dz4 dz5 dz6 dz7 dz8
      go_wp2
      exact hend.out _ rfl rfl rfl rfl hPh.out
    | ok r =>
      rw [hp] at he
      obtain ⟨hnx, hfk, r3, hp3⟩ := he
      subst hnx
      have r4 := r3.ext x4
      obtain ⟨e0, e1, e2, e3, ez⟩ := r4.cells
      have hT2 : Hid (takeT l a e = .ok r) := by show _ = _; rw [hT.out, hp]
      have hfk4 := hfk.next (fun g hg => x4.block g hg.2)
      have hsz4 := x4.size
      clear ez x4 z3 y3 hT hp r3 r4 hPs hfk
      go_upto_region 5 with fail
      obtain ⟨F, hF⟩ : ∃ F, Hid (F = w3.heap.size) := ⟨_, rfl⟩
      rw [← hF.out] at f4 ⊢
      generalize World.alloc w3 _ = w4 at hz4 y4 f4 e0 e1 e2 e3 hfk4 hsz4 ⊢
      obtain ⟨g0, g1, g2, g3, g4, g5, g6, g7, g8, -⟩ := f4.cells
      simp only at g0 g1 g2 g3 g4 g5 g6 g7 g8
      obtain ⟨d0, d1, d2, d3, d4, d5, d6, d7, d8, dz⟩ := hz4.cells
      simp only [F9.zero] at d0 d1 d2 d3 d4 d5 d6 d7 d8
      have dz0 := dz 0
      have dz1 := dz 1
      have dz2 := dz 2
      have dz3 := dz 3
      have dz4 := dz 4
      have dz5 := dz 5
      have dz6 := dz 6
      have dz7 := dz 7
      have dz8 := dz 8
      have k := put_only w4 Z ⟨kind, ka, kn, kc, desc, value, start, ma, mn, mc, fin, rule, dn⟩
      have hX : Only (fun g => g = Z) w (putF w4 Z ⟨kind, ka, kn, kc, desc, value, start, ma, mn, mc, fin, rule, dn⟩) := ⟨k.os.trans y4.os, k.tape.trans y4.tape, k.output.trans y4.output, Nat.le_trans y4.size k.size, fun g hg hn => (k.block g (Nat.lt_of_lt_of_le hg y4.size) hn).trans (y4.block g hg (by omega))⟩
      have hP : TakeP w (putF w4 Z ⟨kind, ka, kn, kc, desc, value, start, ma, mn, mc, fin, rule, dn⟩) (takeT l a e) (.returned (.tuple #[.agg (F9.arr ⟨kind, ka, kn, kc, desc, value, start, ma, mn, mc, fin, rule, dn⟩), .int .i64 r.nx, .int .i64 0, .int .i64 0])) := by
        refine takeP_ok hT2.out ⟨_, rfl, ?_⟩
        exact (hfk4.next (fun g hg => k.block g (Nat.lt_of_lt_of_le hg.2 hsz4) (by have := hg.1; have := hRz.out; have := hZ.out; omega))).wide (fun g hg => ⟨by have := hg.1; have := hRz.out; omega, Nat.lt_of_lt_of_le hg.2 (Nat.le_trans hsz4 k.size)⟩)
      have hend : Hid _ := tk_end (w := w) (wz := w4) (n := r.nx) (c := 0) (a := 0) (o := takeT l a e) hz4 hX hZw
      have hPh : Hid _ := hP
      clear dz hz4 hP hX k hfk4 f4
      go_wp2
      exact hend.out _ rfl rfl rfl rfl hPh.out
end Go.Proofs.YthjgfpkmfmoheaaGreatDoor

/-
  PacketTakes: what is taken is what the document takes, whatever the bytes and the places (written by gen/mktakes.py).
-/
namespace Go.Proofs.YthjgfpkmfmoheaaGreatDoor
open Go.RowKit Go.Shelf

/-- what Take answers, as one row -/
structure TK where
  a : OwnF
  k : FT
  n : Int
  c : Int
  i : Int
def tkv (o : Rs PR) : TK := match o with
  | .error q => ⟨ownK 0, .nil, 0, q.1, q.2⟩
  | .ok r => ⟨r.a, r.k, r.nx, 0, 0⟩
theorem zero_keep (B : Nat → Prop) (w : World) : FKeep B w F9.zero (ownK 0) .nil := fun W _ => ⟨own_plain W 0 (by omega) none 0 0 ⟨#[]⟩ ⟨#[]⟩ (Nat.zero_le _) (Nat.zero_le _), fkids_nil W 0 _ _ _ _ _ _ _ _ _⟩
theorem takeP_all {w w' : World} {o : Rs PR} {x : Ending} (h : TakeP w w' o x) : ∃ f : F9, x = .returned (.tuple #[.agg f.arr, .int .i64 (tkv o).n, .int .i64 (tkv o).c, .int .i64 (tkv o).i]) ∧ FKeep (news w w') w' f (tkv o).a (tkv o).k := by
  cases o with
  | error q => exact ⟨F9.zero, h, zero_keep _ _⟩
  | ok r => exact h

set_option maxRecDepth 100000 in
set_option maxHeartbeats 8000000 in
theorem PacketTakes_any (w : World) (v : Value) (l : List UInt8) (a e : Int) (hs : Sl w v l) (hl : l.length + 4 ≤ 140737488355328) (h1 : -9223372036854775808 ≤ a ∧ a < 9223372036854775808) (h2 : -9223372036854775808 ≤ e ∧ e < 9223372036854775808) :
    Calls Tryz.prog 4 #[v, .int .i64 a, .int .i64 e] w fun x w' => x = .returned (.bool true) ∧ Ext w w' := by
  obtain ⟨sa, sn, sc, rfl⟩ := hs.lit
  have hT := rTake_any w _ l a e hs (by omega) h1 h2
  have hTk := fun W u (y : Sl W u l) => Take_any W u l a e y (by omega) h1 h2
  have hL := fun W (y : Ext w W) => lent_any W _ l (hs.ext y) hl
  have hI := fun W B u (h : Lent W B u l) (y : Ext w W) => intact_any W B u _ l h (hs.ext y) hl
  have hWk := works_any
  generalize takeT l a e = o at hT hTk
  clear h1 h2 hl
  go_enter Tryz.func4, Tryz.ntmps4
  go_wp2_with fail
  go_at_call 14
  refine hT.mono ?_
  rintro _ w1 ⟨x1, hp⟩
  obtain ⟨f, rfl, hf⟩ := takeP_all hp
  clear hp hT
  obtain ⟨T, hTe⟩ : ∃ T, Hid (T = tkv o) := ⟨_, rfl⟩
  rw [← hTe.out] at hf ⊢
  obtain ⟨ta, tk, tn, tc, ti⟩ := T
  obtain ⟨kG, kaG, knG, kcG, dG, vG, sG, maG, mnG, mcG, eG, rG, bG⟩ := f
  simp only [F9.arr] at hf ⊢
  have g2 : FlT (w1.alloc (.cells #[.int .i8 kG, .slice kaG knG kcG, .string dG, .string vG, .string sG, .slice maG mnG mcG, .string eG, .string rG, .bool bG] 27)) w1.heap.size ⟨kG, kaG, knG, kcG, dG, vG, sG, maG, mnG, mcG, eG, rG, bG⟩ := heap_alloc_new _ _
  have y2 := (Ext.refl w1).alloc (.cells #[.int .i8 kG, .slice kaG knG kcG, .string dG, .string vG, .string sG, .slice maG mnG mcG, .string eG, .string rG, .bool bG] 27)
  try dsimp only
  go_upto_region 2 with fail
  generalize w1.alloc _ = w2 at g2 y2 ⊢
  have hV : Hid (∀ W, Ext w2 W → FOwn W ⟨kG, kaG, knG, kcG, dG, vG, sG, maG, mnG, mcG, eG, rG, bG⟩ ta ∧ FKids W ⟨kG, kaG, knG, kcG, dG, vG, sG, maG, mnG, mcG, eG, rG, bG⟩ tk) := fun W y => (hf.next (w' := W) (fun g hg => (y2.trans y).block g hg.2)).self
  have x2 := x1.trans y2
  have hL2 := hL _ x2
  clear hf hL x1 y2
  go_wp2_with fail
  go_at_call 8
  refine hL2.mono ?_
  rintro _ w3 ⟨u, rfl, hLe, x3⟩
  have g3 := g2.ext x3
  have y3 := x2.trans x3
  have hTk3 := hTk _ _ hLe.sl
  obtain ⟨ua, un, uc, rfl⟩ := hLe.sl.lit
  clear hL2 g2 hTk
  try dsimp only
  go_wp2_with fail
  go_at_call 15
  refine hTk3.mono ?_
  rintro _ w4 ⟨x4, hp⟩
  obtain ⟨f, rfl, hf⟩ := takeP_all hp
  rw [← hTe.out] at hf ⊢
  obtain ⟨kH, kaH, knH, kcH, dH, vH, sH, maH, mnH, mcH, eH, rH, bH⟩ := f
  simp only [F9.arr] at hf ⊢
  have h5 : FlT (w4.alloc (.cells #[.int .i8 kH, .slice kaH knH kcH, .string dH, .string vH, .string sH, .slice maH mnH mcH, .string eH, .string rH, .bool bH] 27)) w4.heap.size ⟨kH, kaH, knH, kcH, dH, vH, sH, maH, mnH, mcH, eH, rH, bH⟩ := heap_alloc_new _ _
  have y5 := (Ext.refl w4).alloc (.cells #[.int .i8 kH, .slice kaH knH kcH, .string dH, .string vH, .string sH, .slice maH mnH mcH, .string eH, .string rH, .bool bH] 27)
  have g5 := g3.ext (x4.trans y5)
  have z5 := y3.trans (x4.trans y5)
  have hLe5 := hLe.ext (x4.trans y5)
  have hV5 := hV.out _ (x3.trans (x4.trans y5))
  clear hp hTk3 g3 y3 x3 hLe hV hTe
  try dsimp only
  go_upto_region 4 with fail
  generalize w4.alloc _ = w5 at h5 y5 g5 z5 hLe5 hV5 ⊢
  obtain ⟨hO, hK⟩ := (hf.next (w' := w5) (fun g hg => y5.block g hg.2)).self
  have hS := same_any w5 _ _ ta ta tk tk ⟨_, rfl, hO, hK⟩ ⟨_, rfl, hV5.1, hV5.2⟩
  rw [decide_eq_true (show ta = ta ∧ tk = tk from ⟨rfl, rfl⟩)] at hS
  simp only [F9.arr] at hS
  obtain ⟨c0, c1, c2, c3, c4, c5, c6, c7, c8, cz⟩ := g5.cells
  obtain ⟨d0, d1, d2, d3, d4, d5, d6, d7, d8, dz⟩ := h5.cells
  simp only at c0 c1 c2 c3 c4 c5 c6 c7 c8 d0 d1 d2 d3 d4 d5 d6 d7 d8
  clear hf hO hK hV5 y5 x4 cz dz
  go_wp2_with fail
  go_at_call 10
  refine hS.mono ?_
  rintro _ w6 ⟨rfl, x6⟩
  have hI6 := hI _ _ _ (hLe5.ext x6) (z5.trans x6)
  clear c0 c1 c2 c3 c4 c5 c6 c7 c8 d0 d1 d2 d3 d4 d5 d6 d7 d8 hS g5 h5 hLe5 hI
  try dsimp only
  go_wp2_with fail
  go_at_call 11
  refine hI6.mono ?_
  rintro _ w7 ⟨rfl, x7⟩
  clear hI6
  try dsimp only
  go_wp2_with fail
  go_at_call 13
  refine (hWk w7).mono ?_
  rintro _ w8 ⟨rfl, x8⟩
  try dsimp only
  go_wp2
  go_ret
  exact ⟨rfl, z5.trans (x6.trans (x7.trans x8))⟩
end Go.Proofs.YthjgfpkmfmoheaaGreatDoor

/-
  PacketTakes: whatever the bytes and the places, the call returns true and leaves the bytes as they were; the listed tables start as the program's text lays them.
-/
namespace Go.Proofs.YthjgfpkmfmoheaaGreatDoor.packetTakes
open Go.ChangeShapes Go.WideShapes Go.ChangeAt Go.RowKit Go.Shelf

theorem bytes8 : Tryz.prog.bytesOf 5 = 1 := by kernel_rfl

set_option maxRecDepth 100000 in
theorem contract (H : Type) (enc : TypeId × Value → H) (W : World) (base : Nat) (args : Array Value) (ds gs : List (DataW H)) (before : List MemPlace)
    (hval : ∀ (j : Nat) t v, Tryz.f4.params[j]? = some t → args[j]? = some v → Value.okWide Tryz.prog W .any base t v)
    (hW : DataW.Whole enc Tryz.prog Tryz.f4.params.toList Rows.packetTakesSpec.vars false W args.toList ds gs before) (hsz : (DataW.weightsEach Tryz.prog (Tryz.f4.params.toList ++ (OpenSpec.ofChange Rows.packetTakesSpec).bare.plain.varTypes Tryz.prog) (ds ++ gs)).all (· ≤ reachBytes) = true) :
    Calls Tryz.prog 4 args W fun e W' => ∃ v, e = .returned v ∧ Rows.packetTakesSpec.post enc Tryz.prog Tryz.f4 false true false false W args v W' := by
  have hW' := hW
  have hlt := hW.lt
  obtain ⟨p, q, hA0, hV, rfl, _, _⟩ := hW
  have hA : DataW.TrodAll enc Tryz.prog W 0 (fun _ => true) true Tryz.f4.params.toList args.toList ds p := hA0
  have hAa := hA
  rw [Tryz.params4] at hA hval
  obtain ⟨v0, vs0, d0, ds0, p0, q0, hargs, rfl, rfl, h0, r0⟩ := trodAll_cons hA
  obtain ⟨v1, vs1, d1, ds1, p1, q1, rfl, rfl, rfl, h1, r1⟩ := trodAll_cons r0
  obtain ⟨v2, vs2, d2, ds2, p2, q2, rfl, rfl, rfl, h2, r2⟩ := trodAll_cons r1
  obtain ⟨rfl, rfl, rfl⟩ := trodAll_nil r2
  obtain rfl : args = #[v0, v1, v2] := by cases args; simp_all
  obtain ⟨rfl, rfl⟩ := trodVars_none hV
  obtain ⟨l, hs, hd⟩ := open_bytes (hval 0 22 v0 rfl rfl) h0
  obtain ⟨a1, rfl, rfl, rfl, b1⟩ := open_int Tryz.underlying3 (hval 1 3 v1 rfl rfl) h1
  obtain ⟨a2, rfl, rfl, rfl, b2⟩ := open_int Tryz.underlying3 (hval 2 3 v2 rfl rfl) h2
  have hl : l.length + 4 ≤ 140737488355328 := by
    rcases hd with ⟨_, rfl⟩ | ⟨elems, spare, rfl, e⟩
    · simp
    · have h9 := sized_slice hsz (j := 0) (t := 22) (e := 5) (elems := elems) (spare := spare) rfl rfl Tryz.underlying22
      rw [show Tryz.prog.bytesOf 5 = 1 from bytes8] at h9
      unfold reachBytes at h9
      omega
  have c1 : -9223372036854775808 ≤ a1 ∧ a1 < 9223372036854775808 := by
    have : -9223372036854775808 ≤ a1 ∧ a1 ≤ 9223372036854775807 := by simpa [Lit.wf, IntKind.min, IntKind.max, IntKind.signed, IntKind.bits] using b1
    omega
  have c2 : -9223372036854775808 ≤ a2 ∧ a2 < 9223372036854775808 := by
    have : -9223372036854775808 ≤ a2 ∧ a2 ≤ 9223372036854775807 := by simpa [Lit.wf, IntKind.min, IntKind.max, IntKind.signed, IntKind.bits] using b2
    omega
  clear hA0
  simp only [List.append_nil] at hW' hlt hAa
  refine (PacketTakes_any W v0 l a1 a2 hs hl c1 c2).mono fun e W' ⟨he, hg⟩ => ?_
  subst he
  refine ⟨_, rfl, _, _, _, [], _, [], hW', ?_, args_again (by rw [Tryz.params4]; decide) hAa hlt hg, ?_, Below.frame hg _, fun h => by cases h⟩
  · exact trodAll_mk1 (shut_bool Tryz.underlying4 _)
  · rfl

theorem reads (os : Os) {H : Type} (enc : TypeId × Value → H) : ∃ places, DataW.whole enc Tryz.prog ((laidWorld os).forCall (fun _ _ => 0) ⟨#[], #[.slice none 0 0, .int .i64 0, .int .i64 0], []⟩).memory Tryz.f4.params.toList Rows.packetTakesSpec.vars false #[Value.slice none 0 0, Value.int .i64 0, Value.int .i64 0].toList 8 = some ([.nil, .lit (.int .i64 0), .lit (.int .i64 0)], [], places) :=
  ⟨[], by kernel_rfl⟩

set_option maxRecDepth 100000 in
theorem lifted (os : Os) (started : os.Started) (H : Type) (enc : TypeId × Value → H) (F : Stop.Interp) :
    ReturnsInHanded {} Tryz.checked os 4 .any ((OpenSpec.ofChange Rows.packetTakesSpec).preRow enc Tryz.prog Tryz.f4 Rows.packetTakesRow.domain false Rows.packetTakesRow.laid) (((OpenSpec.ofChange Rows.packetTakesSpec).at F).post enc Tryz.prog Tryz.f4 false true false false) := by
  obtain ⟨places, hx⟩ := reads os enc
  refine returnsInHanded_of_row (C := Tryz.checked) (s := OpenSpec.ofChange Rows.packetTakesSpec) ownKnob_none started (by kernel_rfl) Tryz.func4
    (witness_row_atRef (enc := enc) (C := Tryz.checked) false (laidWorld os) #[.slice none 0 0, .int .i64 0, .int .i64 0] rfl (by kernel_rfl) (by kernel_rfl) (by kernel_rfl)
      (OpenSpec.preRow_of_cond 8 hx (by kernel_rfl) (fun k hk => by cases hk) (by kernel_rfl) (laid_met os _))) ?_
  intro W base args ds gs before hval hW _ _ hsz _ _ _
  exact contract H enc W base args ds gs before hval hW hsz

theorem said : Rows.PacketTakesSaid :=
  OpenClaim.holds_of_cond 4 Tryz.f4 rfl rfl rfl rfl rfl rfl rfl ⟨rfl, rfl, rfl, rfl, rfl⟩ rfl rfl rfl rfl rfl (by kernel_rfl) Tryz.func4 (by kernel_rfl)
    (of_decide_eq_true (by kernel_rfl)) (by unfold Func.isWrapper; first | (rw [if_pos (by decide +kernel)]; kernel_rfl) | (rw [if_neg (by decide +kernel)]; exact ⟨rfl, rfl⟩))
    (fun os started H enc _ F => by rw [OpenClaim.pre_eq_preRow]; exact lifted os started H enc F)

theorem plain (f : FuncId) (fn : Func) (hf : Tryz.pinned.checked.prog.funcNamed "roster/rosterlaw11.PacketTakes" = some f) (hfn : Tryz.pinned.checked.prog.funcs[f]? = some fn) :
    true = Tryz.pinned.checked.prog.looks [] ∧ ∀ (j : Nat) t, fn.params[j]? = some t → Tryz.pinned.checked.prog.wantsStandIn t = false := by
  obtain rfl : f = 4 := Option.some.inj ((show Tryz.prog.funcNamed "roster/rosterlaw11.PacketTakes" = some 4 by kernel_rfl).symm.trans hf) |>.symm
  obtain rfl : fn = Tryz.f4 := (Option.some.inj (Tryz.func4.symm.trans hfn)).symm
  refine ⟨by kernel_rfl, fun j t ht => ?_⟩
  rw [Tryz.params4] at ht
  have hm := Array.mem_of_getElem? ht
  simp only [List.mem_toArray, List.mem_cons, List.not_mem_nil, or_false] at hm
  rcases hm with rfl | rfl | rfl
  · exact (show Tryz.prog.wantsStandIn 22 = false by kernel_rfl)
  · exact (show Tryz.prog.wantsStandIn 3 = false by kernel_rfl)
  · exact (show Tryz.prog.wantsStandIn 3 = false by kernel_rfl)

theorem card : Rows.PacketTakesCardSaid :=
  Claim7.holds_tied_plain_at .later [] _ _ _ _ said (fun _ h => by cases h) (by kernel_rfl) (fun _ h => by cases h) packetTakes_row_tie rfl ⟨rfl, rfl⟩ (by kernel_rfl) rfl plain (by kernel_rfl)
end Go.Proofs.YthjgfpkmfmoheaaGreatDoor.packetTakes
namespace Go.Proofs.YthjgfpkmfmoheaaGreatDoor
theorem packetTakes_card : Rows.PacketTakesCardSaid := packetTakes.card
end Go.Proofs.YthjgfpkmfmoheaaGreatDoor
