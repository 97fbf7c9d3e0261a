/-
 Arguments that come in: a slice of bytes (thin copy of t2's)
-/
import Derived.Test.YthjgfpkmfmoheaaGreatDoorBcard
import Derived.Test.YthjgfpkmfmoheaaGreatDoorBint
import Derived.SizedLaws
import Derived.Test.YthjgfpkmfmoheaaGreatDoorQP
import Derived.Test.YthjgfpkmfmoheaaGreatDoorQQ
import Derived.Test.YthjgfpkmfmoheaaGreatDoorQU
import Derived.Test.YthjgfpkmfmoheaaGreatDoorQT
import Derived.Test.YthjgfpkmfmoheaaGreatDoorQV
import Derived.Test.YthjgfpkmfmoheaaGreatDoorQS
import Derived.Test.YthjgfpkmfmoheaaGreatDoorQR
namespace Go.Proofs.YthjgfpkmfmoheaaGreatDoor
open Go.ChangeShapes Go.WideShapes Go.ChangeAt Go.RowKit

set_option maxRecDepth 100000
theorem cells8 : Tryz.prog.cellsOf 5 = 1 := by kernel_rfl
theorem open_bytes {H : Type} {enc : TypeId × Value → H} {W : World} {base : Nat} {v : Value} {d : DataW H} {p : List MemPlace} (hval : Value.okWide Tryz.prog W .any base 22 v) (h : DataW.Trod enc Tryz.prog W 0 (fun _ => true) true 22 v d p) :
   ∃ l : List UInt8, Sl W v l ∧ ((d = .nil ∧ l = []) ∨ ∃ elems spare, d = .slice elems spare ∧ elems.length = l.length) := by
 obtain ⟨a1, len, cap, rfl⟩ := okWide_slice Tryz.underlying22 hval
 obtain ⟨fuel, hf⟩ := h
 rcases open_ints Tryz.underlying22 Tryz.underlying5 cells8 hf with ⟨hcs, hx⟩ | ⟨a, len', cap', zs, hcs, _, hl, hm, hz, hx, hcell, hwz⟩
 · simp [Value.cells] at hcs
   obtain ⟨rfl, rfl, rfl⟩ := hcs
   simp only [Prod.mk.injEq] at hx
   exact ⟨[], sl_nil rfl (by decide), .inl ⟨hx.1, rfl⟩⟩
 · simp [Value.cells] at hcs
   obtain ⟨rfl, rfl, rfl⟩ := hcs
   simp only [Prod.mk.injEq] at hx
   simp only [if_true] at hz
   have hlen : ((zs.take len).map fun n => UInt8.ofNat n.toNat).length = len := by simp; omega
   refine ⟨(zs.take len).map fun n => UInt8.ofNat n.toNat, ?_, .inr ⟨_, _, hx.1, by simp [lits]⟩⟩
   by_cases h0 : len = 0
   · subst h0
     simpa using sl_nil (w := W) (a := some a) rfl hm
   · obtain ⟨ab, ao, spot⟩ := a
     have hspot : spot = none := by simpa [Addr.add] using World.cell?_spot (hcell 0 (by omega))
     subst hspot
     refine sl_of hlen.symm hl hm fun j hj => ?_
     rw [hlen] at hj
     have hcj := hcell j (by omega)
     rw [Addr.add_lit] at hcj
     rw [hcj]
     have hb := range_u8 hwz j
     have e : zs.getD j 0 = zs[j]'(by omega) := by simp [List.getD, List.getElem?_eq_getElem (show j < zs.length by omega)]
     rw [List.getD_eq_getElem?_getD] at e
     rw [List.getD_eq_getElem?_getD]
     rw [e] at hb ⊢
     unfold B8
     congr 2
     simp only [List.getElem_map, List.getElem_take, UInt8.toNat_ofNat']
     omega

end Go.Proofs.YthjgfpkmfmoheaaGreatDoor

/-
 The document's own reader of packets: a filter, at every depth.
-/
namespace Go.Proofs.YthjgfpkmfmoheaaGreatDoor
open Go.RowKit Go.Shelf

theorem path_item {l : List UInt8} {m e p f : Nat} {t : Tl} (hhd : headL l m e = (t, 0)) : pathR l (f + 1) m e p = if 65536 < upP l ⟨t, m, t.fro⟩ p then .error (3, (m : Int)) else bindR (filterR (pathR l f) l ⟨t, m, t.fro⟩ (upP l ⟨t, m, t.fro⟩ p)) fun r => .ok ⟨r.1, r.2.1, t.til, r.2.2⟩ := by
 show bindR (itemR l m e) _ = _
 rw [itemR_yes (by rw [hhd]), hhd]
 rfl
theorem against_is (l : List UInt8) (x : Ix) (k : Int) (m til p : Nat) (hm : x.at_ = m) (hn : x.next = x.t.fro) : leafR (agO l x k (.ok x.t.fro)) m til p = bindR (bindR (againstR l x k) fun a => .ok (a, .nil, p)) fun r : OwnF × FT × Nat => .ok ⟨r.1, r.2.1, til, r.2.2⟩ := by
 have e : x.to x.t.fro = x := by rw [← hn]; rfl
 unfold leafR agO againstR
 rw [text_must (by decide), hm]
 show bindR (bindR (bindR (takeR l (x.to x.t.fro) 4) _) _) _ = _
 rw [e]
 cases takeR l x 4 with
 | error q => rfl
 | ok y =>
   simp only [bindR]
   cases textR l y with
   | error q => rfl
   | ok d =>
     simp only
     rw [text_must (by decide)]
     simp only [bindR]
     cases takeR l (x.to y.t.til) 4 with
     | error q => rfl
     | ok z =>
       simp only
       cases textR l z with
       | error q => rfl
       | ok u =>
         simp only
         unfold overO
         simp only [bindR]
         cases endR l (x.to z.t.til) with
         | error q => rfl
         | ok _ =>
           simp only
           cases checkedR { ownK k with desc := str d, value := str u } .nil m <;> rfl
theorem leaf_is (Q : Rs OwnF) (m til p : Nat) : leafR Q m til p = bindR (bindR Q fun b => bindR (checkedR b .nil m) fun a => .ok (a, .nil, p)) fun r : OwnF × FT × Nat => .ok ⟨r.1, r.2.1, til, r.2.2⟩ := by
 cases Q with
 | error q => rfl
 | ok b =>
   show bindR (checkedR b .nil m) _ = bindR (bindR (checkedR b .nil m) _) _
   cases checkedR b .nil m <;> rfl
theorem kid_is (k : Int) (til : Nat) (Q : Rs (List (OwnF × FT) × Nat)) : kidD k til Q = bindR (bindR Q fun r => .ok (ownK k, toFT r.1, r.2)) fun r : OwnF × FT × Nat => .ok ⟨r.1, r.2.1, til, r.2.2⟩ := by
 cases Q <;> rfl
theorem have_is {l : List UInt8} {t : Tl} {m til p : Nat} (ht : t.Fine) (hk : jTag t = 135) : leafR (haveO l ⟨t, m, t.fro⟩) m til p = bindR (bindR (textR l ⟨t, m, t.fro⟩) fun d => bindR (checkedR { ownK 7 with desc := str d } .nil m) fun a => .ok (a, .nil, p)) fun r : OwnF × FT × Nat => .ok ⟨r.1, r.2.1, til, r.2.2⟩ := by
 have hc : t.cons = false := by
   have h1 := ht.c
   have h2 := ht.n
   unfold jTag at hk
   by_cases hc : t.cons = true
   · rw [if_pos hc] at hk; omega
   · simpa using hc
 rw [leaf_is]
 unfold haveO textR
 simp only [hc]
 split
 · rfl
 · rfl

set_option maxHeartbeats 1000000 in
theorem dpath_all : ∀ (f : Nat), f ≤ 64 → ∀ (l : List UInt8) (R : Nat) (v : Value), l.length < 36028797018963968 → (0 < l.length → ∀ a n c, v = .slice (some a) n c → a.block ≠ R) → DSpec l R v f := by
 intro f
 induction f with
 | zero =>
   intro _ l R v hl hap w p a e hr hs hp hbd
   cases hq : headL l a e with
   | mk t er =>
     by_cases h0 : er = 0
     · subst h0
       obtain ⟨h1, h2, h3, h4, h5, h6⟩ := headL_ok l a e (by rw [hq])
       obtain ⟨m, rfl⟩ := Int.eq_ofNat_of_zero_le h1
       obtain ⟨e, rfl⟩ := Int.eq_ofNat_of_zero_le (Int.le_trans h1 h2)
       have hP : pathR l 0 m e p = .error (91, (m : Int)) := by show bindR (itemR l m e) _ = _; rw [itemR_yes (by rw [hq])]; rfl
       rw [hP]
       exact dq_deep l R v hl w p m e hr hs hbd t hq
     · have hP : pathR l 0 a e p = .error (er, a) := by show bindR (itemR l a e) _ = _; unfold itemR; rw [if_neg (by rw [hq]; exact h0), hq]; rfl
       rw [hP]
       exact dq_noitem l R v hl w p a e _ hr hs hbd t er h0 hq
 | succ f ih =>
   intro hf l R v hl hap w p a e hr hs hp hbd
   have hK := ih (by omega) l R v hl hap
   cases hq : headL l a e with
   | mk t er =>
     by_cases h0 : er = 0
     · subst h0
       obtain ⟨h1, h2, h3, h4, h5, h6⟩ := headL_ok l a e (by rw [hq])
       obtain ⟨m, rfl⟩ := Int.eq_ofNat_of_zero_le h1
       obtain ⟨e, rfl⟩ := Int.eq_ofNat_of_zero_le (Int.le_trans h1 h2)
       obtain ⟨hft, hbt, hxo, hte, hwin, hpos⟩ := head_in hl hq hbd
       have hap := hap hpos
       have hff : f < 64 := by omega
       rw [path_item hq]
       by_cases hk162 : jTag t = 162
       · have hu : upP l ⟨t, m, t.fro⟩ p = p := by unfold upP; rw [show bAt l (⟨t, m, t.fro⟩ : Ix).at_ = 162 from hbt.trans hk162, if_pos rfl]
         rw [hu, if_neg (by omega)]
         have hF : filterR (pathR l f) l ⟨t, m, t.fro⟩ p = bindR (onlyR (pathR l f) l ⟨t, m, t.fro⟩ p) fun r => .ok (ownK 2, toFT r.1, r.2) := by unfold filterR; simp only [show bAt l m = 162 from hbt.trans hk162]; rfl
         rw [hF, ← kid_is]
         exact dq_162 l R v hl hap f hff hK w p m e hr hs hp hbd t hq hk162
       · have hu : upP l ⟨t, m, t.fro⟩ p = p + 1 := by unfold upP; rw [if_neg (by rw [show bAt l (⟨t, m, t.fro⟩ : Ix).at_ = jTag t from hbt]; exact hk162)]
         rw [hu]
         by_cases hn : p < 65536
         · rw [if_neg (by omega)]
           have go : ∀ (k : Nat) (o : Rs (OwnF × FT × Nat)), jTag t = k → filterR (pathR l f) l ⟨t, m, t.fro⟩ (p + 1) = o → ∀ (P : Prop), (bAt l m = k → P) → P := fun k o hk _ P h => h (hbt.trans hk)
           by_cases k160 : jTag t = 160
           · rw [show filterR (pathR l f) l ⟨t, m, t.fro⟩ (p + 1) = bindR (kidsR (pathR l f) ⟨t, m, t.fro⟩ (p + 1)) fun r => .ok (ownK 0, toFT r.1, r.2) by unfold filterR; simp only [show bAt l m = 160 from hbt.trans k160]; rfl, ← kid_is]
             exact dq_many l R v hl hap f hff hK w p m e hr hs hp hbd t hq 160 0 (by omega) k160 hn
           by_cases k161 : jTag t = 161
           · rw [show filterR (pathR l f) l ⟨t, m, t.fro⟩ (p + 1) = bindR (kidsR (pathR l f) ⟨t, m, t.fro⟩ (p + 1)) fun r => .ok (ownK 1, toFT r.1, r.2) by unfold filterR; simp only [show bAt l m = 161 from hbt.trans k161]; rfl, ← kid_is]
             exact dq_many l R v hl hap f hff hK w p m e hr hs hp hbd t hq 161 1 (by omega) k161 hn
           by_cases k163 : jTag t = 163
           · rw [show filterR (pathR l f) l ⟨t, m, t.fro⟩ (p + 1) = bindR (againstR l ⟨t, m, t.fro⟩ 3) fun a => .ok (a, .nil, p + 1) by unfold filterR; simp only [show bAt l m = 163 from hbt.trans k163]; rfl, ← against_is l ⟨t, m, t.fro⟩ 3 m t.til (p + 1) rfl rfl]
             exact dq_two l R v hl hap f hff w p m e hr hs hp hbd t hq 163 3 (by omega) k163 hn
           by_cases k165 : jTag t = 165
           · rw [show filterR (pathR l f) l ⟨t, m, t.fro⟩ (p + 1) = bindR (againstR l ⟨t, m, t.fro⟩ 5) fun a => .ok (a, .nil, p + 1) by unfold filterR; simp only [show bAt l m = 165 from hbt.trans k165]; rfl, ← against_is l ⟨t, m, t.fro⟩ 5 m t.til (p + 1) rfl rfl]
             exact dq_two l R v hl hap f hff w p m e hr hs hp hbd t hq 165 5 (by omega) k165 hn
           by_cases k166 : jTag t = 166
           · rw [show filterR (pathR l f) l ⟨t, m, t.fro⟩ (p + 1) = bindR (againstR l ⟨t, m, t.fro⟩ 6) fun a => .ok (a, .nil, p + 1) by unfold filterR; simp only [show bAt l m = 166 from hbt.trans k166]; rfl, ← against_is l ⟨t, m, t.fro⟩ 6 m t.til (p + 1) rfl rfl]
             exact dq_two l R v hl hap f hff w p m e hr hs hp hbd t hq 166 6 (by omega) k166 hn
           by_cases k168 : jTag t = 168
           · rw [show filterR (pathR l f) l ⟨t, m, t.fro⟩ (p + 1) = bindR (againstR l ⟨t, m, t.fro⟩ 8) fun a => .ok (a, .nil, p + 1) by unfold filterR; simp only [show bAt l m = 168 from hbt.trans k168]; rfl, ← against_is l ⟨t, m, t.fro⟩ 8 m t.til (p + 1) rfl rfl]
             exact dq_two l R v hl hap f hff w p m e hr hs hp hbd t hq 168 8 (by omega) k168 hn
           by_cases k135 : jTag t = 135
           · rw [show filterR (pathR l f) l ⟨t, m, t.fro⟩ (p + 1) = bindR (textR l ⟨t, m, t.fro⟩) fun d => bindR (checkedR { ownK 7 with desc := str d } .nil m) fun a => .ok (a, .nil, p + 1) by unfold filterR; simp only [show bAt l m = 135 from hbt.trans k135]; rfl, ← have_is hft k135]
             exact dq_135 l R v hl hap f hff w p m e hr hs hp hbd t hq k135 hn
           by_cases k164 : jTag t = 164
           · rw [show filterR (pathR l f) l ⟨t, m, t.fro⟩ (p + 1) = bindR (partR l ⟨t, m, t.fro⟩) fun b => bindR (checkedR b .nil m) fun a => .ok (a, .nil, p + 1) by unfold filterR; simp only [show bAt l m = 164 from hbt.trans k164]; rfl, ← leaf_is]
             exact dq_part l R v hl hap f hff w p m e hr hs hp hbd t hq k164 hn
           by_cases k169 : jTag t = 169
           · rw [show filterR (pathR l f) l ⟨t, m, t.fro⟩ (p + 1) = bindR (ruleR l ⟨t, m, t.fro⟩) fun b => bindR (checkedR b .nil m) fun a => .ok (a, .nil, p + 1) by unfold filterR; simp only [show bAt l m = 169 from hbt.trans k169]; rfl, ← leaf_is]
             exact dq_rule l R v hl hap f hff w p m e hr hs hp hbd t hq k169 hn
           · rw [show filterR (pathR l f) l ⟨t, m, t.fro⟩ (p + 1) = .error (20, (m : Int)) by
               unfold filterR
               simp only [show bAt l m = jTag t from hbt]
               rw [if_neg k160, if_neg k161, if_neg hk162, if_neg k163, if_neg k165, if_neg k166, if_neg k168, if_neg k135, if_neg k164, if_neg k169]]
             exact dq_none l R v hl hap f hff w p m e hr hs hp hbd t hq _ rfl hn ⟨k160, k161, hk162, k163, k164, k165, k166, k168, k135, k169⟩
         · rw [if_pos (by omega)]
           exact dq_full l R v hl w p m e hr hs hbd (64 - (f + 1)) (by omega) (by omega) t hq hk162
     · have hP : pathR l (f + 1) a e p = .error (er, a) := by show bindR (itemR l a e) _ = _; unfold itemR; rw [if_neg (by rw [hq]; exact h0), hq]; rfl
       rw [hP]
       exact dq_noitem l R v hl w p a e _ hr hs hbd t er h0 hq
end Go.Proofs.YthjgfpkmfmoheaaGreatDoor

/-
 The document's own reader of packets: Take.
-/
namespace Go.Proofs.YthjgfpkmfmoheaaGreatDoor
open Go.RowKit Go.Shelf

theorem results_c4 {fn : Func} {pp u s t : Tmp} (h : fn.results = #[.cell pp 27, .tmp u, .tmp s, .tmp t]) (tmps : Array Value) (w : World) (g : Nat) (f : F9) (hp : tmps.getD pp undef = .pointer (some ⟨g, 0, none⟩)) (hc : FlT w g f) : (results fn tmps).run Tryz.prog w = .ok (.tuple #[.agg f.arr, tmps.getD u undef, tmps.getD s undef, tmps.getD t undef]) w := by
 have hl := run_loadCells_list (P := Tryz.prog) w ⟨g, 0, none⟩ f.arr.toList (by
   intro j v hv
   rw [Addr.add_lit, Nat.zero_add, cell_of_row _ _ j _ _ _ hc]
   simpa [F9.arr] using hv)
 have hl9 : (loadCells ⟨g, 0, none⟩ 9).run Tryz.prog w = .ok f.arr w := hl
 have hag := Tryz.isAgg27
 have hsz : ∀ w, (sizeOf 27).run Tryz.prog w = .ok 9 w := Tryz.sizeOf27
 have hp' : tmps[pp]?.getD undef = .pointer (some ⟨g, 0, none⟩) := by simpa using hp
 simp [results, h, hp', asAddr, loadVar, Sem.run_bind, hag, hsz, hl9, Result.andThen]
theorem tk_end {w wz : World} {Z : Nat} {f : F9} {n c a : Int} {o : Rs PR} (z : FlT wz Z F9.zero) (hx : Only (fun g => g = Z) w (putF wz Z f)) (hZ : w.heap.size ≤ Z) (tm : Array Value) (h6 : tm.getD 6 undef = .pointer (some ⟨Z, 0, none⟩)) (h7 : tm.getD 7 undef = .int .i64 n) (h8 : tm.getD 8 undef = .int .i64 c) (h9 : tm.getD 9 undef = .int .i64 a)
   (hP : TakeP w (putF wz Z f) o (.returned (.tuple #[.agg f.arr, .int .i64 n, .int .i64 c, .int .i64 a]))) :
   bodyPost Tryz.prog Tryz.f14 (fun x w' => Ext w w' ∧ TakeP w w' o x) Exit.ret { tmps := tm, defers := [] } (putF wz Z f) := by
 refine bodyPost_ret (results_c4 rfl _ _ Z _ h6 (z.put f)) rfl ?_
 rw [h7, h8, h9]
 exact ⟨(Ext.refl w).then hx (fun g hg => by omega), hP⟩

set_option maxRecDepth 100000 in
set_option maxHeartbeats 4000000 in
theorem rTake_any (w : World) (v : Value) (l : List UInt8) (a e : Int) (hs : Sl w v l) (hl : l.length < 36028797018963968) (h1 : -9223372036854775808 ≤ a ∧ a < 9223372036854775808) (h2 : -9223372036854775808 ≤ e ∧ e < 9223372036854775808) :
   Calls Tryz.prog 14 #[v, .int .i64 a, .int .i64 e] w fun x w' => Ext w w' ∧ TakeP w w' (takeT l a e) x := by
 have hmix : Tryz.prog.follows Departure.mixedOrders = true := by kernel_rfl
 obtain ⟨sa, sn, sc, rfl⟩ := hs.lit
 have hsn : sn = l.length := by obtain ⟨a', c', e', _⟩ := hs; simp only [Value.slice.injEq] at e'; exact e'.2.1
 obtain ⟨B, hB⟩ : ∃ B : Bool, Hid (B = decide (0 ≤ a ∧ a ≤ e ∧ e ≤ l.length ∧ 1048576 < e - a)) := ⟨_, rfl⟩
 have hV : Hid (takeT l a e = if B = true then .error (3, 0) else pathR l 64 a e 0) := by
   show _ = _
   unfold takeT
   rw [hB.out]
   by_cases hc : 0 ≤ a ∧ a ≤ e ∧ e ≤ l.length ∧ 1048576 < e - a
   · rw [if_pos hc, if_pos (decide_eq_true hc)]
   · rw [if_neg hc, if_neg (by simpa using hc)]
 have z0 := fl_new w
 have x0 := (Ext.refl w).alloc (.cells #[.int .i8 0, .slice none 0 0, .string ⟨#[]⟩, .string ⟨#[]⟩, .string ⟨#[]⟩, .slice none 0 0, .string ⟨#[]⟩, .string ⟨#[]⟩, .bool false] 27)
 have hsz0 : Hid ((w.alloc (.cells #[.int .i8 0, .slice none 0 0, .string ⟨#[]⟩, .string ⟨#[]⟩, .string ⟨#[]⟩, .slice none 0 0, .string ⟨#[]⟩, .string ⟨#[]⟩, .bool false] 27)).heap.size = w.heap.size + 1) := World.size_alloc _ _
 have hsnh : Hid (sn = l.length) := hsn
 clear hsn
 go_enter Tryz.func14, Tryz.ntmps14
 go_upto_region 1 with fail
 generalize World.alloc w _ = w1 at z0 x0 hsz0 ⊢
 obtain ⟨Z, hZ⟩ : ∃ Z, Hid (Z = w.heap.size) := ⟨_, rfl⟩
 rw [← hZ.out] at z0 ⊢
 have hZw : w.heap.size ≤ Z := by rw [hZ.out]; exact Nat.le_refl _
 go_cut [31] from 13 to 31 (fun t wx => t = .bool B ∧ wx = w1)
 case first =>
   clear hV
   by_cases k0 : 0 ≤ a
   · by_cases k1 : a ≤ e
     · by_cases k2 : e ≤ (sn : Int)
       · have hw : IntKind.i64.wrap (e - a) = e - a := by rw [IntKind.wrap_i64]; omega
         by_cases k3 : 1048576 < e - a
         · have hBt : B = true := by rw [hB.out, decide_eq_true_eq]; have := hsnh.out; omega
           subst hBt
           go_wp2
           go_meet
           exact ⟨rfl, rfl⟩
         · have hBt : B = false := by rw [hB.out, decide_eq_false_iff_not]; omega
           subst hBt
           go_wp2
           go_meet
           exact ⟨rfl, rfl⟩
       · have hBt : B = false := by rw [hB.out, decide_eq_false_iff_not]; have := hsnh.out; omega
         subst hBt
         go_wp2
         go_meet
         exact ⟨rfl, rfl⟩
     · have hBt : B = false := by rw [hB.out, decide_eq_false_iff_not]; omega
       subst hBt
       go_wp2
       go_meet
       exact ⟨rfl, rfl⟩
   · have hBt : B = false := by rw [hB.out, decide_eq_false_iff_not]; omega
     subst hBt
     go_wp2
     go_meet
     exact ⟨rfl, rfl⟩
 case rest =>
 obtain ⟨rfl, rfl⟩ := hcut
 cases B with
 | true =>
   have hT : Hid (takeT l a e = .error (3, 0)) := by show _ = _; rw [hV.out]; rfl
   obtain ⟨d0, d1, d2, d3, d4, d5, d6, d7, d8, dz⟩ := z0.cells
   simp only [F9.zero] at d0 d1 d2 d3 d4 d5 d6 d7 d8
   have dz0 := dz 0
   have dz1 := dz 1
   have dz2 := dz 2
   have dz3 := dz 3
   have dz4 := dz 4
   have dz5 := dz 5
   have dz6 := dz 6
   have dz7 := dz 7
   have dz8 := dz 8
   have hend : Hid _ := tk_end (w := w) (wz := wc) (f := F9.zero) (n := 0) (c := 3) (a := 0) (o := takeT l a e) z0 ((x0.only (S := fun g => g = Z)).then (put_only wc Z F9.zero)) hZw
   clear hV hB dz z0
   go_wp2
   exact hend.out _ rfl rfl rfl rfl (takeP_err hT.out rfl)
 | false =>
   have hT : Hid (takeT l a e = pathR l 64 a e 0) := by show _ = _; rw [hV.out]; rfl
   have hbd : 0 ≤ a → a ≤ e → e ≤ l.length → e - a ≤ 1048576 := by
     intro q0 q1 q2
     have := hB.out
     have := (decide_eq_false_iff_not.1 this.symm)
     omega
   clear hV hB
   have x2 := (Ext.refl wc).alloc (.cells #[.slice sa sn sc, .int .i64 0, .int .i64 0, .int .i64 0] 59)
   have rd2 : RfB (wc.alloc (.cells #[.slice sa sn sc, .int .i64 0, .int .i64 0, .int .i64 0] 59)) wc.heap.size (.slice sa sn sc) 0 0 0 := heap_alloc_new _ _
   have hPs := dpath_all 64 (Nat.le_refl _) l wc.heap.size (.slice sa sn sc) hl (fun hl0 aa nn cc ev => by
     obtain ⟨g, o, ee, hc, _⟩ := hs.byte 0 hl0
     simp only [Value.slice.injEq] at ev
     obtain ⟨rfl, _, _⟩ := ev
     cases ee
     have := World.block_lt_of_cell? _ _ hc
     have := x0.size
     simp only at *
     omega) (wc.alloc (.cells #[.slice sa sn sc, .int .i64 0, .int .i64 0, .int .i64 0] 59)) 0 a e rd2 ((hs.ext x0).ext x2) (Nat.zero_le _) hbd
   have e64 : ((64 - 64 : Nat) : Int) = 0 := rfl
   rw [e64] at hPs
   have z2 := z0.ext x2
   have y2 := x0.trans x2
   have hRe : Hid (wc.heap.size = w.heap.size + 1) := hsz0
   have hRz : Hid ((wc.alloc (.cells #[.slice sa sn sc, .int .i64 0, .int .i64 0, .int .i64 0] 59)).heap.size = w.heap.size + 2) := by show _ = _; rw [World.size_alloc, hRe.out]
   go_upto_region 4 with fail
   generalize World.alloc wc _ = w2 at z2 y2 hPs rd2 hRz ⊢
   generalize hRw : wc.heap.size = R at hPs rd2 hRe ⊢
   have hRz2 : ¬ Z = R := by rw [hRe.out, hZ.out]; omega
   clear x2 z0 x0 hsz0 hs
   go_wp2_with fail
   go_at_call 34
   refine hPs.mono ?_
   rintro _ w3 ⟨o3, f, nx, rfl, he⟩
   try dsimp only
   have z3 := z2.only o3 hRz2
   have y3 : Only (fun g => g = R) w w3 := y2.only.then o3
   obtain ⟨kind, ka, kn, kc, desc, value, start, ma, mn, mc, fin, rule, dn⟩ := f
   simp only [F9.arr]
   have f4 : FlT (w3.alloc (.cells #[.int .i8 kind, .slice ka kn kc, .string desc, .string value, .string start, .slice ma mn mc, .string fin, .string rule, .bool dn] 27)) w3.heap.size ⟨kind, ka, kn, kc, desc, value, start, ma, mn, mc, fin, rule, dn⟩ := heap_alloc_new _ _
   have x4 := (Ext.refl w3).alloc (.cells #[.int .i8 kind, .slice ka kn kc, .string desc, .string value, .string start, .slice ma mn mc, .string fin, .string rule, .bool dn] 27)
   have hz4 := z3.ext x4
   have hz4h : Hid (w.heap.size ≤ Z ∧ ¬ Z = R) := ⟨hZw, hRz2⟩
   have y4 : Only (fun g => g = R) w (w3.alloc (.cells #[.int .i8 kind, .slice ka kn kc, .string desc, .string value, .string start, .slice ma mn mc, .string fin, .string rule, .bool dn] 27)) := y3.ext x4
   have hRw : w.heap.size ≤ R := by rw [hRe.out]; omega
   cases hp : pathR l 64 a e 0 with
   | error q =>
     rw [hp] at he
     obtain ⟨q0, n3, r3⟩ := he
     have r4 := r3.ext x4
     obtain ⟨e0, e1, e2, e3, ez⟩ := r4.cells
     have hq0 : ((q.1 : Int) != 0) = true := by simp; exact q0
     have hT2 : Hid (takeT l a e = .error q) := by show _ = _; rw [hT.out, hp]
     obtain ⟨d0, d1, d2, d3, d4, d5, d6, d7, d8, dz⟩ := hz4.cells
     simp only [F9.zero] at d0 d1 d2 d3 d4 d5 d6 d7 d8
     clear ez x4 z3 y3 hT hp r3 q0 hPs f4
     go_upto_region 5 with fail
     generalize World.alloc w3 _ = w4 at hz4 y4 e0 e1 e2 e3 d0 d1 d2 d3 d4 d5 d6 d7 d8 dz r4 ⊢
     go_upto_region 6 with fail
     refine wp_region_last (fun W => RfB W R (.slice sa sn sc) n3 q.1 q.2) 12 hmix ?_
     change wpAnyT _ _ _ _ _ _ 13 _ _ w4.drew
     have hSw : RfB w4.drew R (.slice sa sn sc) n3 q.1 q.2 := r4
     have yE : Ext w4 w4.drew := (Ext.refl w4).drew
     have hz5 := hz4.ext yE
     have y5 := y4.ext yE
     clear e0 e1 e2 e3 d0 d1 d2 d3 d4 d5 d6 d7 d8 dz hz4 y4 yE r4
     generalize w4.drew = w5 at hSw hz5 y5 ⊢
     refine wpAnyT_tk (i := 0) (v := ?_) rfl (by kernel_rfl) (fun _ _ _ h => h) (Or.inl ⟨by rfl, ?hy0⟩) hSw ?_
     case hy0 => (intro w' hSw'; obtain ⟨k0, k1, k2, k3, -⟩ := RfB.cells hSw'; go_simp; try with_reducible rfl)
     dsimp only [Act.put, List.getElem_toArray, List.getElem_cons_zero, List.getElem_cons_succ]
     simp only [List.setIfInBounds_toArray, List.set_cons_zero, List.set_cons_succ]
     refine wpAnyT_tk (i := 1) (v := ?_) rfl (by kernel_rfl) (fun _ _ _ h => h) (Or.inl ⟨by rfl, ?hy1⟩) hSw ?_
     case hy1 => (intro w' hSw'; obtain ⟨k0, k1, k2, k3, -⟩ := RfB.cells hSw'; go_simp; try with_reducible rfl)
     dsimp only [Act.put, List.getElem_toArray, List.getElem_cons_zero, List.getElem_cons_succ]
     simp only [List.setIfInBounds_toArray, List.set_cons_zero, List.set_cons_succ]
     refine wpAnyT_tk (i := 2) (v := ?_) rfl (by kernel_rfl) (fun _ _ _ h => h) (Or.inl ⟨by rfl, ?hy2⟩) hSw ?_
     case hy2 => (intro w' hSw'; obtain ⟨k0, k1, k2, k3, -⟩ := RfB.cells hSw'; go_simp; try with_reducible rfl)
     dsimp only [Act.put, List.getElem_toArray, List.getElem_cons_zero, List.getElem_cons_succ]
     simp only [List.setIfInBounds_toArray, List.set_cons_zero, List.set_cons_succ]
     refine wpAnyT_tk (i := 3) (v := ?_) rfl (by kernel_rfl) (fun _ _ _ h => h) (Or.inl ⟨by rfl, ?hy3⟩) hSw ?_
     case hy3 => (intro w' hSw'; obtain ⟨k0, k1, k2, k3, -⟩ := RfB.cells hSw'; go_simp; try with_reducible rfl)
     dsimp only [Act.put, List.getElem_toArray, List.getElem_cons_zero, List.getElem_cons_succ]
     simp only [List.setIfInBounds_toArray, List.set_cons_zero, List.set_cons_succ]
     refine wpAnyT_tk (i := 4) (v := ?_) rfl (by kernel_rfl) (fun _ _ _ h => h) (Or.inl ⟨by rfl, ?hy4⟩) hSw ?_
     case hy4 => (intro w' hSw'; obtain ⟨k0, k1, k2, k3, -⟩ := RfB.cells hSw'; go_simp; try with_reducible rfl)
     dsimp only [Act.put, List.getElem_toArray, List.getElem_cons_zero, List.getElem_cons_succ]
     simp only [List.setIfInBounds_toArray, List.set_cons_zero, List.set_cons_succ]
     refine wpAnyT_tk (i := 5) (v := ?_) rfl (by kernel_rfl) (fun _ _ _ h => h) (Or.inl ⟨by rfl, ?hy5⟩) hSw ?_
     case hy5 => (intro w' hSw'; obtain ⟨k0, k1, k2, k3, -⟩ := RfB.cells hSw'; go_simp; try with_reducible rfl)
     dsimp only [Act.put, List.getElem_toArray, List.getElem_cons_zero, List.getElem_cons_succ]
     simp only [List.setIfInBounds_toArray, List.set_cons_zero, List.set_cons_succ]
     refine wpAnyT_tk (i := 6) (v := ?_) rfl (by kernel_rfl) (fun _ _ _ h => h) (Or.inl ⟨by rfl, ?hy6⟩) hSw ?_
     case hy6 => (intro w' hSw'; obtain ⟨k0, k1, k2, k3, -⟩ := RfB.cells hSw'; go_simp; try with_reducible rfl)
     dsimp only [Act.put, List.getElem_toArray, List.getElem_cons_zero, List.getElem_cons_succ]
     simp only [List.setIfInBounds_toArray, List.set_cons_zero, List.set_cons_succ]
     refine wpAnyT_tk (i := 7) (v := ?_) rfl (by kernel_rfl) (fun _ _ _ h => h) (Or.inl ⟨by rfl, ?hy7⟩) hSw ?_
     case hy7 => (intro w' hSw'; obtain ⟨k0, k1, k2, k3, -⟩ := RfB.cells hSw'; go_simp; try with_reducible rfl)
     dsimp only [Act.put, List.getElem_toArray, List.getElem_cons_zero, List.getElem_cons_succ]
     simp only [List.setIfInBounds_toArray, List.set_cons_zero, List.set_cons_succ]
     refine wpAnyT_tk (i := 8) (v := ?_) rfl (by kernel_rfl) (fun _ _ _ h => h) (Or.inl ⟨by rfl, ?hy8⟩) hSw ?_
     case hy8 => (intro w' hSw'; obtain ⟨k0, k1, k2, k3, -⟩ := RfB.cells hSw'; go_simp; try with_reducible rfl)
     dsimp only [Act.put, List.getElem_toArray, List.getElem_cons_zero, List.getElem_cons_succ]
     simp only [List.setIfInBounds_toArray, List.set_cons_zero, List.set_cons_succ]
     obtain ⟨d0, d1, d2, d3, d4, d5, d6, d7, d8, dz⟩ := hz5.cells
     simp only [F9.zero] at d0 d1 d2 d3 d4 d5 d6 d7 d8
     have dz0 := dz 0
     have dz1 := dz 1
     have dz2 := dz 2
     have dz3 := dz 3
     have dz4 := dz 4
     have dz5 := dz 5
     have dz6 := dz 6
     have dz7 := dz 7
     have dz8 := dz 8
     have k := put_only w5 Z F9.zero
     have hX : Only (fun g => g = Z) w (putF w5 Z F9.zero) := ⟨k.os.trans y5.os, k.tape.trans y5.tape, k.output.trans y5.output, Nat.le_trans y5.size k.size, fun g hg hn => (k.block g (Nat.lt_of_lt_of_le hg y5.size) hn).trans (y5.block g hg (by omega))⟩
     have hSz : Hid (RfB (putF w5 Z F9.zero) R (.slice sa sn sc) n3 q.1 q.2) := hSw.only k (fun e => hz4h.out.2 e.symm)
     have hend : Hid _ := tk_end (w := w) (wz := w5) (f := F9.zero) (n := 0) (c := q.1) (a := q.2) (o := takeT l a e) hz5 hX hz4h.out.1
     have hPh : Hid _ := takeP_err (w := w) (w' := putF w5 Z F9.zero) hT2.out rfl
     clear dz hz5 hX k hSw
     refine wpAnyT_one (i := 9) rfl (by kernel_rfl) ?_
     rw [if_pos (by rfl)]
     go_simp
     refine ⟨hSz.out, ?_⟩
     refine wpAnyT_one (i := 10) rfl (by kernel_rfl) ?_
     rw [if_pos (by rfl)]
     go_simp
     refine ⟨hSz.out, ?_⟩
     refine wpAnyT_one (i := 11) rfl (by kernel_rfl) ?_
     rw [if_pos (by rfl)]
     go_simp
     refine ⟨hSz.out, ?_⟩
     refine wpAnyT_one (i := 12) rfl (by kernel_rfl) ?_
     rw [if_pos (by rfl)]
     go_simp
     refine wpAnyT_done (by kernel_rfl) ?_
     clear d0 d1 d2 d3 d4 d5 d6 d7 d8 dz0 dz1 dz2 dz3 dz4 dz5 dz6 dz7 dz8
     go_wp2
     exact hend.out _ rfl rfl rfl rfl hPh.out
   | ok r =>
     rw [hp] at he
     obtain ⟨hnx, hfk, r3, hp3⟩ := he
     subst hnx
     have r4 := r3.ext x4
     obtain ⟨e0, e1, e2, e3, ez⟩ := r4.cells
     have hT2 : Hid (takeT l a e = .ok r) := by show _ = _; rw [hT.out, hp]
     have hfk4 := hfk.next (fun g hg => x4.block g hg.2)
     have hsz4 := x4.size
     clear ez x4 z3 y3 hT hp r3 r4 hPs hfk
     go_upto_region 5 with fail
     obtain ⟨F, hF⟩ : ∃ F, Hid (F = w3.heap.size) := ⟨_, rfl⟩
     rw [← hF.out] at f4 ⊢
     generalize World.alloc w3 _ = w4 at hz4 y4 f4 e0 e1 e2 e3 hfk4 hsz4 ⊢
     obtain ⟨g0, g1, g2, g3, g4, g5, g6, g7, g8, -⟩ := f4.cells
     simp only at g0 g1 g2 g3 g4 g5 g6 g7 g8
     obtain ⟨d0, d1, d2, d3, d4, d5, d6, d7, d8, dz⟩ := hz4.cells
     simp only [F9.zero] at d0 d1 d2 d3 d4 d5 d6 d7 d8
     have dz0 := dz 0
     have dz1 := dz 1
     have dz2 := dz 2
     have dz3 := dz 3
     have dz4 := dz 4
     have dz5 := dz 5
     have dz6 := dz 6
     have dz7 := dz 7
     have dz8 := dz 8
     have k := put_only w4 Z ⟨kind, ka, kn, kc, desc, value, start, ma, mn, mc, fin, rule, dn⟩
     have hX : Only (fun g => g = Z) w (putF w4 Z ⟨kind, ka, kn, kc, desc, value, start, ma, mn, mc, fin, rule, dn⟩) := ⟨k.os.trans y4.os, k.tape.trans y4.tape, k.output.trans y4.output, Nat.le_trans y4.size k.size, fun g hg hn => (k.block g (Nat.lt_of_lt_of_le hg y4.size) hn).trans (y4.block g hg (by omega))⟩
     have hP : TakeP w (putF w4 Z ⟨kind, ka, kn, kc, desc, value, start, ma, mn, mc, fin, rule, dn⟩) (takeT l a e) (.returned (.tuple #[.agg (F9.arr ⟨kind, ka, kn, kc, desc, value, start, ma, mn, mc, fin, rule, dn⟩), .int .i64 r.nx, .int .i64 0, .int .i64 0])) := by
       refine takeP_ok hT2.out ⟨_, rfl, ?_⟩
       exact (hfk4.next (fun g hg => k.block g (Nat.lt_of_lt_of_le hg.2 hsz4) (by have := hg.1; have := hRz.out; have := hZ.out; omega))).wide (fun g hg => ⟨by have := hg.1; have := hRz.out; omega, Nat.lt_of_lt_of_le hg.2 (Nat.le_trans hsz4 k.size)⟩)
     have hend : Hid _ := tk_end (w := w) (wz := w4) (n := r.nx) (c := 0) (a := 0) (o := takeT l a e) hz4 hX hZw
     have hPh : Hid _ := hP
     clear dz hz4 hP hX k hfk4 f4
     go_wp2
     exact hend.out _ rfl rfl rfl rfl hPh.out
end Go.Proofs.YthjgfpkmfmoheaaGreatDoor

/-
 The document's own reader of packets: Decode.
-/
namespace Go.Proofs.YthjgfpkmfmoheaaGreatDoor
open Go.RowKit Go.Shelf

def DecF (w w' : World) (o : Rs (OwnF × FT)) (x : Ending) : Prop := match o with
 | .error q => x = .returned (.tuple #[.agg F9.zero.arr, .int .i64 q.1, .int .i64 q.2])
 | .ok r => ∃ f : F9, x = .returned (.tuple #[.agg f.arr, .int .i64 0, .int .i64 0]) ∧ FKeep (news w w') w' f r.1 r.2
theorem decF_err {w w' : World} {o : Rs (OwnF × FT)} {q : Nat × Int} {x : Ending} (h : o = .error q) (hx : x = .returned (.tuple #[.agg F9.zero.arr, .int .i64 q.1, .int .i64 q.2])) : DecF w w' o x := by subst h; exact hx
theorem decF_ok {w w' : World} {o : Rs (OwnF × FT)} {r : OwnF × FT} {x : Ending} (h : o = .ok r) (hx : ∃ f : F9, x = .returned (.tuple #[.agg f.arr, .int .i64 0, .int .i64 0]) ∧ FKeep (news w w') w' f r.1 r.2) : DecF w w' o x := by subst h; exact hx
theorem results_c3 {fn : Func} {pp u s : Tmp} (h : fn.results = #[.cell pp 27, .tmp u, .tmp s]) (tmps : Array Value) (w : World) (g : Nat) (f : F9) (hp : tmps.getD pp undef = .pointer (some ⟨g, 0, none⟩)) (hc : FlT w g f) : (results fn tmps).run Tryz.prog w = .ok (.tuple #[.agg f.arr, tmps.getD u undef, tmps.getD s undef]) w := by
 have hl := run_loadCells_list (P := Tryz.prog) w ⟨g, 0, none⟩ f.arr.toList (by
   intro j v hv
   rw [Addr.add_lit, Nat.zero_add, cell_of_row _ _ j _ _ _ hc]
   simpa [F9.arr] using hv)
 have hl9 : (loadCells ⟨g, 0, none⟩ 9).run Tryz.prog w = .ok f.arr w := hl
 have hag := Tryz.isAgg27
 have hsz : ∀ w, (sizeOf 27).run Tryz.prog w = .ok 9 w := Tryz.sizeOf27
 have hp' : tmps[pp]?.getD undef = .pointer (some ⟨g, 0, none⟩) := by simpa using hp
 simp [results, h, hp', asAddr, loadVar, Sem.run_bind, hag, hsz, hl9, Result.andThen]
theorem dv_end {w wz : World} {Z : Nat} {f : F9} {c a : Int} {o : Rs (OwnF × FT)} (z : FlT wz Z F9.zero) (hx : Only (fun g => g = Z) w (putF wz Z f)) (hZ : w.heap.size ≤ Z) (tm : Array Value) (h6 : tm.getD 2 undef = .pointer (some ⟨Z, 0, none⟩)) (h8 : tm.getD 3 undef = .int .i64 c) (h9 : tm.getD 4 undef = .int .i64 a)
   (hP : DecF w (putF wz Z f) o (.returned (.tuple #[.agg f.arr, .int .i64 c, .int .i64 a]))) :
   bodyPost Tryz.prog Tryz.f7 (fun x w' => Ext w w' ∧ DecF w w' o x) Exit.ret { tmps := tm, defers := [] } (putF wz Z f) := by
 refine bodyPost_ret (results_c3 rfl _ _ Z _ h6 (z.put f)) rfl ?_
 rw [h8, h9]
 exact ⟨(Ext.refl w).then hx (fun g hg => by omega), hP⟩

set_option maxRecDepth 100000 in
set_option maxHeartbeats 4000000 in
theorem rDecode_any (w : World) (v : Value) (l : List UInt8) (hs : Sl w v l) (hl : l.length < 36028797018963968) :
   Calls Tryz.prog 7 #[v] w fun x w' => Ext w w' ∧ DecF w w' (decodeR l) x := by
 obtain ⟨sa, sn, sc, rfl⟩ := hs.lit
 have hsn : sn = l.length := by obtain ⟨a', c', e', _⟩ := hs; simp only [Value.slice.injEq] at e'; exact e'.2.1
 have z0 := fl_new w
 have x0 := (Ext.refl w).alloc (.cells #[.int .i8 0, .slice none 0 0, .string ⟨#[]⟩, .string ⟨#[]⟩, .string ⟨#[]⟩, .slice none 0 0, .string ⟨#[]⟩, .string ⟨#[]⟩, .bool false] 27)
 have hsz0 : Hid ((w.alloc (.cells #[.int .i8 0, .slice none 0 0, .string ⟨#[]⟩, .string ⟨#[]⟩, .string ⟨#[]⟩, .slice none 0 0, .string ⟨#[]⟩, .string ⟨#[]⟩, .bool false] 27)).heap.size = w.heap.size + 1) := World.size_alloc _ _
 have hT := fun W (y : Ext w W) => rTake_any W (.slice sa sn sc) l 0 (sn : Int) (hs.ext y) hl (by omega) (by omega)
 have hV : Hid (decodeR l = bindR (takeT l 0 sn) fun r => if r.nx < sn then .error (24, r.nx) else .ok (r.a, r.k)) := by show _ = _; rw [hsn]; rfl
 have hnz := nz_takeT l 0 sn
 generalize takeT l 0 sn = T at hT hV hnz
 clear hs hsn
 go_enter Tryz.func7, Tryz.ntmps7
 go_upto_region 1 with fail
 generalize World.alloc w _ = w1 at z0 x0 hsz0 ⊢
 obtain ⟨Z, hZ⟩ : ∃ Z, Hid (Z = w.heap.size) := ⟨_, rfl⟩
 rw [← hZ.out] at z0 ⊢
 have hZw : w.heap.size ≤ Z := by rw [hZ.out]; exact Nat.le_refl _
 have hT1 := hT _ x0
 clear hT
 go_wp2_with fail
 go_at_call 14
 refine hT1.mono ?_
 rintro _ w2 ⟨x2, hp⟩
 have z2 := z0.ext x2
 have y2 := x0.trans x2
 clear hT1 z0
 cases T with
 | error q =>
   have hx : _ = _ := hp
   subst hx
   have hq0 : ((q.1 : Int) != 0) = true := by simp; exact hnz q rfl
   have hR : Hid (decodeR l = .error q) := hV.out
   simp only [F9.zero, F9.arr]
   have x3 := (Ext.refl w2).alloc (.cells #[.int .i8 0, .slice none 0 0, .string ⟨#[]⟩, .string ⟨#[]⟩, .string ⟨#[]⟩, .slice none 0 0, .string ⟨#[]⟩, .string ⟨#[]⟩, .bool false] 27)
   have z3 := z2.ext x3
   have y3 := y2.trans x3
   clear hp hnz hV x3 z2 y2 x2 x0
   go_upto_region 2 with fail
   generalize World.alloc w2 _ = w3 at z3 y3 ⊢
   obtain ⟨d0, d1, d2, d3, d4, d5, d6, d7, d8, dz⟩ := z3.cells
   simp only [F9.zero] at d0 d1 d2 d3 d4 d5 d6 d7 d8
   have dz0 := dz 0
   have dz1 := dz 1
   have dz2 := dz 2
   have dz3 := dz 3
   have dz4 := dz 4
   have dz5 := dz 5
   have dz6 := dz 6
   have dz7 := dz 7
   have dz8 := dz 8
   have hend : Hid _ := dv_end (w := w) (wz := w3) (f := F9.zero) (c := q.1) (a := q.2) (o := decodeR l) z3 ((y3.only (S := fun g => g = Z)).then (put_only w3 Z F9.zero)) hZw
   clear dz z3 y3
   go_wp2
   exact hend.out _ rfl rfl rfl (decF_err hR.out rfl)
 | ok r =>
   obtain ⟨f, rfl, hfk⟩ := hp
   obtain ⟨kind, ka, kn, kc, desc, value, start, ma, mn, mc, fin, rule, dn⟩ := f
   simp only [F9.arr]
   have f3 : FlT (w2.alloc (.cells #[.int .i8 kind, .slice ka kn kc, .string desc, .string value, .string start, .slice ma mn mc, .string fin, .string rule, .bool dn] 27)) w2.heap.size ⟨kind, ka, kn, kc, desc, value, start, ma, mn, mc, fin, rule, dn⟩ := heap_alloc_new _ _
   have x3 := (Ext.refl w2).alloc (.cells #[.int .i8 kind, .slice ka kn kc, .string desc, .string value, .string start, .slice ma mn mc, .string fin, .string rule, .bool dn] 27)
   have z3 := z2.ext x3
   have y3 := y2.trans x3
   have hfk3 := hfk.next (fun g hg => x3.block g hg.2)
   have hsz3 := x3.size
   have hZ1 : Hid (Z < w1.heap.size ∧ w.heap.size ≤ w1.heap.size) := by show _ ∧ _; rw [hsz0.out, hZ.out]; omega
   clear hnz x3 z2 y2 x2 hfk x0
   go_upto_region 2 with fail
   obtain ⟨F, hF⟩ : ∃ F, Hid (F = w2.heap.size) := ⟨_, rfl⟩
   rw [← hF.out] at f3 ⊢
   generalize World.alloc w2 _ = w3 at z3 y3 f3 hfk3 hsz3 ⊢
   obtain ⟨g0, g1, g2, g3, g4, g5, g6, g7, g8, -⟩ := f3.cells
   simp only at g0 g1 g2 g3 g4 g5 g6 g7 g8
   obtain ⟨d0, d1, d2, d3, d4, d5, d6, d7, d8, dz⟩ := z3.cells
   simp only [F9.zero] at d0 d1 d2 d3 d4 d5 d6 d7 d8
   have dz0 := dz 0
   have dz1 := dz 1
   have dz2 := dz 2
   have dz3 := dz 3
   have dz4 := dz 4
   have dz5 := dz 5
   have dz6 := dz 6
   have dz7 := dz 7
   have dz8 := dz 8
   by_cases hlt : r.nx < sn
   · have hlt' : (r.nx : Int) < (sn : Int) := by omega
     have hR : Hid (decodeR l = .error (24, (r.nx : Int))) := by show _ = _; rw [hV.out]; show (if r.nx < sn then _ else _) = _; rw [if_pos hlt]
     have hend : Hid _ := dv_end (w := w) (wz := w3) (f := F9.zero) (c := 24) (a := r.nx) (o := decodeR l) z3 ((y3.only (S := fun g => g = Z)).then (put_only w3 Z F9.zero)) hZw
     clear dz z3 y3 f3 hfk3 hlt hV
     go_wp2
     exact hend.out _ rfl rfl rfl (decF_err hR.out rfl)
   · have hlt' : ¬ (r.nx : Int) < (sn : Int) := by omega
     have hR : Hid (decodeR l = .ok (r.a, r.k)) := by show _ = _; rw [hV.out]; show (if r.nx < sn then _ else _) = _; rw [if_neg hlt]
     have k := put_only w3 Z ⟨kind, ka, kn, kc, desc, value, start, ma, mn, mc, fin, rule, dn⟩
     have hend : Hid _ := dv_end (w := w) (wz := w3) (f := ⟨kind, ka, kn, kc, desc, value, start, ma, mn, mc, fin, rule, dn⟩) (c := 0) (a := 0) (o := decodeR l) z3 ((y3.only (S := fun g => g = Z)).then k) hZw
     have hP : Hid (DecF w (putF w3 Z ⟨kind, ka, kn, kc, desc, value, start, ma, mn, mc, fin, rule, dn⟩) (decodeR l) (.returned (.tuple #[.agg (F9.arr ⟨kind, ka, kn, kc, desc, value, start, ma, mn, mc, fin, rule, dn⟩), .int .i64 0, .int .i64 0]))) := by
       refine decF_ok hR.out ⟨_, rfl, ?_⟩
       exact (hfk3.next (fun g hg => k.block g (Nat.lt_of_lt_of_le hg.2 hsz3) (by have := hg.1; have := hZ1.out; omega))).wide (fun g hg => ⟨by have := hg.1; have := hZ1.out; omega, Nat.lt_of_lt_of_le hg.2 (Nat.le_trans hsz3 k.size)⟩)
     clear dz z3 y3 f3 hfk3 hlt hV k
     go_wp2
     exact hend.out _ rfl rfl rfl hP.out
end Go.Proofs.YthjgfpkmfmoheaaGreatDoor

/-
 spoil: the caller writes over all of a filter that it was given, and grows its lists.
-/
namespace Go.Proofs.YthjgfpkmfmoheaaGreatDoor
open Go.RowKit Go.Shelf

def At9 (w : World) (G O : Nat) (f : F9) : Prop := ∃ cs : Array Value, w.heap[G]? = some (.cells cs 27 (0, 0)) ∧ ∀ j (h : j < f.arr.size), cs[O + j]? = some f.arr[j]
theorem At9.cells {w : World} {G O : Nat} {f : F9} (h : At9 w G O f) : w.cell? ⟨G, O, none⟩ = some (.int .i8 f.kind) ∧ w.cell? ⟨G, O + 1, none⟩ = some (.slice f.ka f.kn f.kc) ∧ w.cell? ⟨G, O + 2, none⟩ = some (.string f.desc) ∧ w.cell? ⟨G, O + 3, none⟩ = some (.string f.value) ∧ w.cell? ⟨G, O + 5, none⟩ = some (.slice f.ma f.mn f.mc) ∧ ∀ j, w.frozen? ⟨G, j, none⟩ = false := by
 obtain ⟨cs, h1, h2⟩ := h
 have hc : ∀ j u, cs[j]? = some u → w.cell? ⟨G, j, none⟩ = some u := fun j u hu => by simp [World.cell?, h1, hu]
 exact ⟨hc _ _ (h2 0 (by simp [F9.arr])), hc _ _ (h2 1 (by simp [F9.arr])), hc _ _ (h2 2 (by simp [F9.arr])), hc _ _ (h2 3 (by simp [F9.arr])), hc _ _ (h2 5 (by simp [F9.arr])), fun j => by simp [World.frozen?, h1]⟩
theorem At9.alike {w w' : World} {G O : Nat} {f : F9} (h : At9 w G O f) (k : w'.heap[G]? = w.heap[G]?) : At9 w' G O f := by
 obtain ⟨cs, h1, h2⟩ := h
 exact ⟨cs, k.trans h1, h2⟩
def GKid (w w' : World) (G O : Nat) : Prop := ∀ cs, w.heap[G]? = some (.cells cs 27 (0, 0)) → ∃ cs', w'.heap[G]? = some (.cells cs' 27 (0, 0)) ∧ cs'.size = cs.size ∧ ∀ j, (j < O ∨ O + 9 ≤ j) → cs'[j]? = cs[j]?
def SpoilQ (U : Nat → Prop) (w : World) (G O : Nat) (e : Ending) (w' : World) : Prop := (∃ n : Int, e = .returned (.int .i64 n)) ∧ Only (fun g => U g ∨ g = G) w w' ∧ GKid w w' G O
def SpoilP (k : FT) : Prop := ∀ (w : World) (U : Nat → Prop) (G O : Nat) (f : F9), Sep U w f k → At9 w G O f → ¬ U G → Calls Tryz.prog 12 #[.pointer (some ⟨G, O, none⟩)] w (SpoilQ U w G O)
def SpoilA : FT → Prop
 | .nil => True
 | .cons _ k r => SpoilP k ∧ SpoilA r
def SlB (w : World) (e : TypeId) (sz : Nat) (a : Option Addr) (n c : Nat) : Prop := (a = none ∧ n = 0 ∧ c = 0) ∨ ∃ g cs, a = some ⟨g, 0, none⟩ ∧ w.heap[g]? = some (.cells cs e (0, 0)) ∧ cs.size = c * sz ∧ n ≤ c ∧ c ≤ maxLen
theorem Row.slb {w : World} {S : Nat → Prop} {e : TypeId} {sz : Nat} {a : Option Addr} {n c m : Nat} {xs : List Value} (h : Row w S e sz (.slice a n c) m xs) : n = m ∧ SlB w e sz a n c := by
 rcases h.1.2 with ⟨e1, hl⟩ | ⟨g, cap, cur, e1, h2, h3, h4, h5, h6, h7⟩
 · simp only [Value.slice.injEq] at e1
   obtain ⟨rfl, rfl, rfl⟩ := e1
   exact ⟨by omega, .inl ⟨rfl, rfl, rfl⟩⟩
 · simp only [Value.slice.injEq] at e1
   obtain ⟨rfl, rfl, rfl⟩ := e1
   exact ⟨rfl, .inr ⟨g, cur, rfl, h3, h6, h4, h5⟩⟩
theorem SlB.row {w : World} {e : TypeId} {sz : Nat} {a : Option Addr} {n c : Nat} (h : SlB w e sz a n c) : ∃ xs, Row w (own (.slice a n c)) e sz (.slice a n c) n xs := by
 rcases h with ⟨rfl, rfl, rfl⟩ | ⟨g, cs, rfl, h1, h2, h3, h4⟩
 · exact ⟨[], row_nil _ _ _ _⟩
 · have hle : n * sz ≤ cs.size := by rw [h2]; exact Nat.mul_le_mul_right _ h3
   exact ⟨cs.toList.take (n * sz), ⟨⟨by simp; omega, .inr ⟨g, c, cs, rfl, Nat.zero_le _, h1, h3, h4, h2, by simp⟩⟩, fun _ hk => hk⟩⟩
theorem SlB.alike {w w' : World} {e : TypeId} {sz : Nat} {a : Option Addr} {n c : Nat} (h : SlB w e sz a n c) (k : ∀ g, own (.slice a n c) g → w'.heap[g]? = w.heap[g]?) : SlB w' e sz a n c := by
 rcases h with h | ⟨g, cs, rfl, h1, h2⟩
 · exact .inl h
 · exact .inr ⟨g, cs, rfl, (k g (by simp [own, Value.ownBlock])).trans h1, h2⟩
def KidB (w : World) (ka : Option Addr) (kn kc i : Nat) (ks : List F9) : Prop := (ka = none ∧ kn = 0 ∧ kc = 0) ∨ ∃ g cs, ka = some ⟨g, 0, none⟩ ∧ w.heap[g]? = some (.cells cs 27 (0, 0)) ∧ cs.size = kc * 9 ∧ kn ≤ kc ∧ kc ≤ maxLen ∧ ∀ j (hj : j < ks.length), i ≤ j → ∀ m (hm : m < ks[j].arr.size), cs[j * 9 + m]? = some ks[j].arr[m]
theorem KidB.slb {w : World} {ka : Option Addr} {kn kc i : Nat} {ks : List F9} (h : KidB w ka kn kc i ks) : SlB w 27 9 ka kn kc := by
 rcases h with h | ⟨g, cs, h1, h2, h3, h4, h5, -⟩
 · exact .inl h
 · exact .inr ⟨g, cs, h1, h2, h3, h4, h5⟩
theorem Row9.kidB {w : World} {ka : Option Addr} {kn kc : Nat} {ks : List F9} (h : Row9 w (.slice ka kn kc) ks) : kn = ks.length ∧ KidB w ka kn kc 0 ks := by
 have hc := fun g hg => World.ownsRow.cells h.1.1 (g := g) hg
 rcases h.1.1.2 with ⟨e1, hl⟩ | ⟨g, cap, cur, e1, h2, h3, h4, h5, h6, h7⟩
 · simp only [Value.slice.injEq] at e1
   obtain ⟨rfl, rfl, rfl⟩ := e1
   exact ⟨by omega, .inl ⟨rfl, rfl, rfl⟩⟩
 · simp only [Value.slice.injEq] at e1
   obtain ⟨rfl, rfl, rfl⟩ := e1
   refine ⟨rfl, .inr ⟨g, cur, rfl, h3, h6, h4, h5, fun j hj _ m hm => ?_⟩⟩
   have := hc g rfl (j * 9 + m) _ (flatF_cell ks j m hj hm)
   rw [Addr.add_lit, Nat.zero_add] at this
   simpa [World.cell?, h3] using this
theorem KidB.alike {w w' : World} {ka : Option Addr} {kn kc i : Nat} {ks : List F9} (h : KidB w ka kn kc i ks) (k : ∀ g, own (.slice ka kn kc) g → w'.heap[g]? = w.heap[g]?) : KidB w' ka kn kc i ks := by
 rcases h with h | ⟨g, cs, rfl, h1, h2⟩
 · exact .inl h
 · exact .inr ⟨g, cs, rfl, (k g (by simp [own, Value.ownBlock])).trans h1, h2⟩
theorem KidB.at {w : World} {ka : Option Addr} {kn kc i : Nat} {ks : List F9} (h : KidB w ka kn kc i ks) (hi : i < ks.length) (hk : kn = ks.length) : ∃ g, ka = some ⟨g, 0, none⟩ ∧ At9 w g (i * 9) ks[i] := by
 rcases h with ⟨-, h, -⟩ | ⟨g, cs, h1, h2, h3, h4, h5, h6⟩
 · omega
 · exact ⟨g, h1, cs, h2, fun m hm => h6 i hi (Nat.le_refl _) m hm⟩
theorem KidB.kid {w w' : World} {g kn kc i : Nat} {ks : List F9} (h : KidB w (some ⟨g, 0, none⟩) kn kc i ks) (hg : GKid w w' g (i * 9)) : KidB w' (some ⟨g, 0, none⟩) kn kc (i + 1) ks := by
 rcases h with ⟨h, -, -⟩ | ⟨g', cs, h1, h2, h3, h4, h5, h6⟩
 · cases h
 · cases h1
   obtain ⟨cs', k1, k2, k3⟩ := hg cs h2
   refine .inr ⟨g, cs', rfl, k1, by rw [k2, h3], h4, h5, fun j hj hij m hm => ?_⟩
   rw [k3 _ (.inr (by omega))]
   exact h6 j hj (by omega) m hm
structure SpS (U Us : Nat → Prop) (w wr : World) (G O : Nat) (f : F9) (ks : List F9) (k : FT) (i : Nat) : Prop where
 at9 : At9 wr G O f
 kid : KidB wr f.ka f.kn f.kc i ks
 mid : SlB wr 9 1 f.ma f.mn f.mc
 sep : ∃ V : Nat → Prop, (∀ g, V g → Us g) ∧ SepC wr k V (ks.drop i)
 on : Only U w wr
 ok : SpoilA k
structure SpH (U Us : Nat → Prop) (w : World) (G : Nat) (f : F9) (ks : List F9) : Prop where
 g : ¬ U G
 gl : G < w.heap.size
 m : ∀ g, own f.mids g → U g ∧ ¬ Us g
 k : ∀ g, own f.kids g → U g ∧ ¬ Us g
 s : ∀ g, Us g → U g
 mkd : ∀ g, own f.mids g → ¬ own f.kids g
 n : f.kn = ks.length
 kl : ks.length ≤ 1048576
 ml : f.mn ≤ 1048576
theorem SpS.len {U Us : Nat → Prop} {w wr : World} {G O : Nat} {f : F9} {ks : List F9} {k : FT} {i : Nat} (h : SpS U Us w wr G O f ks k i) : k.len = ks.length - i := by
 obtain ⟨V, -, hs⟩ := h.sep
 have : ∀ (k : FT) (V : Nat → Prop) (fs : List F9), SepC wr k V fs → k.len = fs.length := by
   intro k
   induction k with
   | nil => intro V fs h; cases h; rfl
   | cons a l r _ ih =>
     intro V fs h
     obtain ⟨f, fs', U1, U2, rfl, -, -, -, h5⟩ := h.split
     simp [FT.len, ih _ _ h5]
 rw [this _ _ _ hs, List.length_drop]
theorem SpS.kid_ {U Us : Nat → Prop} {w wr : World} {G O : Nat} {f : F9} {ks : List F9} {a : OwnF} {l r : FT} {i : Nat} (h : SpS U Us w wr G O f ks (.cons a l r) i) (hh : SpH U Us w G f ks) : ∃ (g : Nat) (fi : F9) (U1 : Nat → Prop), i < ks.length ∧ f.ka = some ⟨g, 0, none⟩ ∧ At9 wr g (i * 9) fi ∧ Sep U1 wr fi l ∧ ¬ U1 g ∧ SpoilP l ∧
   ∀ w', Only (fun b => U1 b ∨ b = g) wr w' → GKid wr w' g (i * 9) → SpS U Us w w' G O f ks r (i + 1) := by
 have hlen := h.len
 have hi : i < ks.length := by simp only [FT.len] at hlen; omega
 obtain ⟨V, hV, hs⟩ := h.sep
 obtain ⟨fi, fs', U1, U2, e1, h2, h3, h4, h5⟩ := hs.split
 have hd : ks.drop i = ks[i] :: ks.drop (i + 1) := by rw [List.drop_eq_getElem_cons hi]
 rw [hd] at e1
 simp only [List.cons.injEq] at e1
 obtain ⟨rfl, rfl⟩ := e1
 obtain ⟨g, hka, hat⟩ := h.kid.at hi hh.n
 have hg : own f.kids g := by unfold F9.kids; rw [hka]; simp [own, Value.ownBlock]
 refine ⟨g, ks[i], U1, hi, hka, hat, h4, fun hu => (hh.k g hg).2 (hV g (h2 g hu).1), h.ok.1, fun w' ho hG => ?_⟩
 have hgU := (hh.k g hg).1
 have hsz := h.on.size
 refine ⟨h.at9.alike (ho.block G (Nat.lt_of_lt_of_le hh.gl hsz) ?_), ?_, h.mid.alike (fun b hb => ?_), ⟨U2, fun b hb => hV b (h3 b hb), ?_⟩, h.on.then (ho.mono fun b _ hb => hb.elim (fun hx => hh.s b (hV b (h2 b hx).1)) (fun hx => hx ▸ hgU)), h.ok.2⟩
 · rintro (hx | hx)
   · exact hh.g (hh.s _ (hV _ (h2 _ hx).1))
   · exact hh.g (hx ▸ hgU)
 · have := h.kid
   rw [hka] at this ⊢
   exact this.kid hG
 · have hbl : b < wr.heap.size := by
     rcases h.mid with ⟨e, -, -⟩ | ⟨g', cs, e, h1, -⟩
     · rw [e] at hb; simp [own, Value.ownBlock] at hb
     · rw [e] at hb
       have : g' = b := by simpa [own, Value.ownBlock] using hb
       subst this
       exact (Array.getElem?_eq_some_iff.1 h1).1
   refine ho.block b hbl ?_
   rintro (hx | hx)
   · exact (hh.m b hb).2 (hV b (h2 b hx).1)
   · exact hh.mkd b hb (hx ▸ hg)
 · refine h5.next _ _ _ (fun b hb hbl => ho.block b hbl ?_)
   rintro (hx | hx)
   · exact (h2 b hx).2 hb
   · exact (hh.k b (hx ▸ hg)).2 (hV b (h3 b hb))
structure SpT (U : Nat → Prop) (w wr : World) (G O : Nat) (f : F9) : Prop where
 at9 : At9 wr G O f
 kid : SlB wr 27 9 f.ka f.kn f.kc
 mid : SlB wr 9 1 f.ma f.mn f.mc
 on : Only U w wr
theorem SlB.lt {w : World} {e : TypeId} {sz : Nat} {a : Option Addr} {n c g : Nat} (h : SlB w e sz a n c) (hg : own (.slice a n c) g) : g < w.heap.size := by
 rcases h with ⟨e, -, -⟩ | ⟨g', cs, e, h1, -⟩
 · rw [e] at hg; simp [own, Value.ownBlock] at hg
 · rw [e] at hg
   have : g' = g := by simpa [own, Value.ownBlock] using hg
   subst this
   exact (Array.getElem?_eq_some_iff.1 h1).1
theorem SpS.t {U Us : Nat → Prop} {w wr : World} {G O : Nat} {f : F9} {ks : List F9} {k : FT} {i : Nat} (h : SpS U Us w wr G O f ks k i) : SpT U w wr G O f := ⟨h.at9, h.kid.slb, h.mid, h.on⟩
theorem SpT.mids {U Us : Nat → Prop} {w wr w' : World} {G O : Nat} {f : F9} {ks : List F9} (h : SpT U w wr G O f) (hh : SpH U Us w G f ks) (o : Only (own f.mids) wr w') (hm : SlB w' 9 1 f.ma f.mn f.mc) : SpT U w w' G O f :=
 ⟨h.at9.alike (o.block G (Nat.lt_of_lt_of_le hh.gl h.on.size) (fun hx => hh.g (hh.m G hx).1)), h.kid.alike (fun b hb => o.block b (h.kid.lt hb) (fun hx => hh.mkd b hx hb)), hm, h.on.then (o.mono fun b _ hb => (hh.m b hb).1)⟩
theorem SpT.grown {U Us : Nat → Prop} {w wr w' : World} {G O : Nat} {f : F9} {ks : List F9} (h : SpT U w wr G O f) (hh : SpH U Us w G f ks) (o : Only (own f.mids) wr w') : At9 w' G O f ∧ SlB w' 27 9 f.ka f.kn f.kc ∧ Only U w w' :=
 ⟨h.at9.alike (o.block G (Nat.lt_of_lt_of_le hh.gl h.on.size) (fun hx => hh.g (hh.m G hx).1)), h.kid.alike (fun b hb => o.block b (h.kid.lt hb) (fun hx => hh.mkd b hx hb)), h.on.then (o.mono fun b _ hb => (hh.m b hb).1)⟩
theorem mid_store {w : World} {ma : Option Addr} {mn mc i : Nat} (h : SlB w 9 1 ma mn mc) (hi : i < mn) : ∃ (g : Nat) (u : Value), ma = some ⟨g, 0, none⟩ ∧ w.cell? ⟨g, i, none⟩ = some u ∧ w.frozen? ⟨g, i, none⟩ = false ∧ ∀ b : ByteArray, SlB (w.setCell ⟨g, i, none⟩ (.string b)) 9 1 ma mn mc ∧ Only (own (.slice ma mn mc)) w (w.setCell ⟨g, i, none⟩ (.string b)) := by
 rcases h with ⟨-, h, -⟩ | ⟨g, cs, rfl, h1, h2, h3, h4⟩
 · omega
 · have hlt : i < cs.size := by omega
   refine ⟨g, cs[i], rfl, by simp [World.cell?, h1, hlt], by simp [World.frozen?, h1], fun b => ⟨.inr ⟨g, cs.setIfInBounds i (.string b), rfl, heap_setCell_at w g i _ _ _ _ h1, by simpa using h2, h3, h4⟩, ?_⟩⟩
   exact (setOnly w g i (.string b)).mono fun k _ hk => by subst hk; simp [own, Value.ownBlock]
theorem spoil_end {U : Nat → Prop} {w w3 : World} {G O : Nat} (on : Only U w w3) (hU : ¬ U G) (hG : G < w.heap.size) (a b : Value) (c : Value) :
   Only (fun g => U g ∨ g = G) w (((w3.setCell ⟨G, O + 2, none⟩ a).setCell ⟨G, O + 3, none⟩ b).setCell ⟨G, O, none⟩ c) ∧ GKid w (((w3.setCell ⟨G, O + 2, none⟩ a).setCell ⟨G, O + 3, none⟩ b).setCell ⟨G, O, none⟩ c) G O := by
 have k := (((setOnly w3 G (O + 2) a).then (setOnly _ G (O + 3) b)).then (setOnly _ G O c))
 refine ⟨(on.mono fun g _ hg => .inl hg).then (k.mono fun g _ hg => .inr hg), fun cs h => ?_⟩
 have h3 := (on.block G hG hU).trans h
 have h4 := heap_setCell_at w3 G (O + 2) a _ _ _ h3
 have h5 := heap_setCell_at _ G (O + 3) b _ _ _ h4
 have h6 := heap_setCell_at _ G O c _ _ _ h5
 refine ⟨_, h6, by simp, fun j hj => ?_⟩
 rw [Array.getElem?_setIfInBounds_ne (by omega), Array.getElem?_setIfInBounds_ne (by omega), Array.getElem?_setIfInBounds_ne (by omega)]

set_option maxRecDepth 100000 in
set_option maxHeartbeats 8000000 in
theorem spoil_step (k : FT) (hA : SpoilA k) : SpoilP k := by
 intro w U G O f hsep hat hUG
 obtain ⟨ks, Us, ⟨xs, rm, hmn⟩, rk, hm, hk2, hs, hC⟩ := hsep
 have hks := rk.2
 obtain ⟨hkn, hkb⟩ := Row9.kidB (ka := f.ka) (kn := f.kn) (kc := f.kc) rk
 have hmb : SlB w 9 1 f.ma f.mn f.mc := (Row.slb (a := f.ma) (n := f.mn) (c := f.mc) rm).2
 have hGl : G < w.heap.size := by obtain ⟨cs, h1, -⟩ := hat; exact (Array.getElem?_eq_some_iff.1 h1).1
 have hmk : ∀ g, own f.mids g → ¬ own f.kids g := by
   intro g h1 h2
   rcases hmb with ⟨e, -, -⟩ | ⟨g1, cs1, e1, q1, -⟩
   · unfold F9.mids at h1; rw [e] at h1; simp [own, Value.ownBlock] at h1
   rcases hkb with ⟨e, -, -⟩ | ⟨g2, cs2, e2, q2, -⟩
   · unfold F9.kids at h2; rw [e] at h2; simp [own, Value.ownBlock] at h2
   unfold F9.mids at h1
   unfold F9.kids at h2
   rw [e1] at h1
   rw [e2] at h2
   have p1 : g1 = g := by simpa [own, Value.ownBlock] using h1
   have p2 : g2 = g := by simpa [own, Value.ownBlock] using h2
   subst p1 p2
   rw [q1] at q2
   simp at q2
 have hh : SpH U Us w G f ks := ⟨hUG, hGl, hm, hk2, hs, hmk, hkn, hks, hmn⟩
 have hS : SpS U Us w w G O f ks k 0 := ⟨hat, hkb, hmb, ⟨Us, fun _ h => h, by simpa using hC⟩, Only.refl _ _, hA⟩
 obtain ⟨c0, c1, c2, c3, c5, cz⟩ := hat.cells
 clear rm rk hm hk2 hs hC hkb hmb hmk hat hA cz
 obtain ⟨kind, ka, kn, kc, desc, value, start, ma, mn, mc, fin, rule, dn⟩ := f
 simp only at c0 c1 c2 c3 c5 hkn hmn
 subst hkn
 go_enter Tryz.func12, Tryz.ntmps12
 go_wp2_with fail
 go_loopg [3, 13] (k.len + 1) (fun q v3 v13 wr => ∃ (z : Int) (i : Nat) (ki : FT), v3 = .int .i64 z ∧ v13 = .int .i64 i ∧ Hid (ki.len < q) ∧ SpS U Us w wr G O ⟨kind, ka, ks.length, kc, desc, value, start, ma, mn, mc, fin, rule, dn⟩ ks ki i)
 case atStart => exact ⟨0, 0, k, rfl, rfl, by show _ < _; omega, hS⟩
 case round =>
   clear hS c0 c1 c2 c3 c5
   obtain ⟨z, i, ki, rfl, rfl, hq, s⟩ := hrel
   have hlen := s.len
   have hql := hq.out
   obtain ⟨c0, c1, c2, c3, c5, cz⟩ := s.at9.cells
   simp only at c0 c1 c2 c3 c5
   cases ki with
   | cons a l r =>
     obtain ⟨g, fi, U1, hi, hka, hat, hsp, hg1, hP, hstep⟩ := s.kid_ hh
     simp only at hka
     subst hka
     have hlt : (i : Int) < (ks.length : Int) := by omega
     have hC := hP wr U1 g (i * 9) fi hsp hat hg1
     clear hat hsp hg1 hP cz
     go_wp2_with fail
     go_at_call 12
     refine hC.mono ?_
     rintro _ w5 ⟨⟨n, rfl⟩, ho, hG⟩
     have s5 := hstep w5 ho hG
     obtain ⟨gm, rfl⟩ : ∃ gm, gk = gm + 1 := ⟨gk - 1, by simp only [FT.len] at hql; omega⟩
     have hq2 : Hid (r.len < gm) := by show _ < _; simp only [FT.len] at hql; omega
     clear hC hstep ho hG c0 c1 c2 c3 c5 s hq hql hlen
     go_wp2
     go_roundg gm
     case measure => omega
     case rel => exact ⟨_, i + 1, r, rfl, rfl, hq2, s5⟩
   | nil =>
     have hge : ¬ (i : Int) < (ks.length : Int) := by simp only [FT.len] at hlen; omega
     have t := s.t
     have hmS := t.mid
     simp only at hmS
     clear s hq hql hlen cz hmS
     go_wp2_with fail
     go_loopg [31] (mn + 1) (fun q v31 wr2 => ∃ i : Nat, v31 = .int .i64 i ∧ Hid (mn - i < q) ∧ SpT U w wr2 G O ⟨kind, ka, ks.length, kc, desc, value, start, ma, mn, mc, fin, rule, dn⟩)
     case atStart => exact ⟨0, rfl, by show _ < _; omega, t⟩
     case round =>
       clear t c0 c1 c2 c3 c5
       obtain ⟨i2, rfl, hq, t⟩ := hrel
       have hql := hq.out
       obtain ⟨c0, c1, c2, c3, c5, cz⟩ := t.at9.cells
       simp only at c0 c1 c2 c3 c5
       by_cases hlt : i2 < mn
       · have hlt' : (i2 : Int) < (mn : Int) := by omega
         obtain ⟨g, u, hma, hc, hf, hst⟩ := mid_store t.mid hlt
         simp only at hma
         subst hma
         obtain ⟨m1, o1⟩ := hst ⟨#[115, 112, 111, 105, 108, 116]⟩
         have t2 := t.mids hh o1 m1
         obtain ⟨gm, rfl⟩ : ∃ gm, gk = gm + 1 := ⟨gk - 1, by omega⟩
         have hq2 : Hid (mn - (i2 + 1) < gm) := by show _ < _; omega
         clear hst m1 o1 cz hq hql t
         go_wp2
         go_roundg gm
         case measure => omega
         case rel => exact ⟨i2 + 1, rfl, hq2, t2⟩
       · have hge2 : ¬ (i2 : Int) < (mn : Int) := by omega
         obtain ⟨xs2, r2⟩ := t.mid.row
         have hkl := hh.kl
         clear hq hql cz hge
         go_wp2_with (at_builtin; refine Hid.out ?_)
         refine wpList_rowpush rfl _ _ 25 9 _ 1 16 infoS Tryz.underlying25 rfl (by decide) rfl _ _ _ mn xs2 _ r2 rfl 2 2 _ rfl rfl rfl (by simp [Value.oneCell']) (by decide) (by unfold maxLen; omega) (by omega) ?_
         intro g2 cap2 w2 r3 o3
         obtain ⟨a9, kb, on2⟩ := t.grown hh o3
         obtain ⟨xs3, r4⟩ := kb.row
         obtain ⟨c0, c1, c2, c3, c5, cz⟩ := a9.cells
         simp only at c0 c1 c2 c3 c5
         clear r2 r3 o3 t cz
         go_wp2_with (at_builtin; refine Hid.out ?_)
         refine wpList_rowpush rfl _ _ 24 27 _ 9 144 infoF Tryz.underlying24 rfl (by decide) rfl _ _ _ ks.length xs3 _ r4 rfl 2 2 _ rfl rfl rfl (by simp [Value.oneCell']) (by decide) (by unfold maxLen; omega) (by omega) ?_
         intro g5 cap5 w5 r5 o5
         have a95 := a9.alike (o5.block G (Nat.lt_of_lt_of_le hh.gl on2.size) (fun hx => hh.g (hh.k G hx).1))
         have on5 := on2.then (o5.mono fun b _ hb => (hh.k b hb).1)
         obtain ⟨c0, c1, c2, c3, c5, cz⟩ := a95.cells
         simp only at c0 c1 c2 c3 c5
         have cz0 := cz O
         have cz2 := cz (O + 2)
         have cz3 := cz (O + 3)
         have hend := spoil_end on5 hh.g hh.gl (.string ⟨#[115, 112, 111, 105, 108, 116]⟩) (.string ⟨#[115, 112, 111, 105, 108, 116]⟩) (.int .i8 77) (O := O)
         clear r4 r5 o5 a9 kb on2 cz a95 on5
         have hendh : Hid _ := hend
         clear hend
         go_wp2
         go_ret
         exact ⟨⟨_, rfl⟩, hendh.out.1, hendh.out.2⟩
theorem spoil_all : ∀ k : FT, SpoilA k
 | .nil => trivial
 | .cons _ k r => ⟨spoil_step k (spoil_all k), spoil_all r⟩
theorem spoil_any (k : FT) : SpoilP k := spoil_step k (spoil_all k)
end Go.Proofs.YthjgfpkmfmoheaaGreatDoor
