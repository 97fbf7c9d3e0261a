/-
  step: From, UpTo, All.
-/
import Derived.Test.YtkdfgjdencelkaaBplToBstp
import Derived.Test.YtkdfgjdencelkaaBp2
import Derived.BigQuiet
import Derived.Deep.QuietTactic
import Derived.Deep.DeepCutAuto
namespace Go.Proofs.Ytkdfgjdencelkaa
open Go.RowKit Go.Shelf
attribute [local go_sem] Oper.semAt_some
section
set_option maxRecDepth 100000
set_option maxHeartbeats 8000000
theorem prow_only {W W' : World} {S : Nat → Prop} {g : Nat} {c : Array Value} {v : Value} {L : List Pr} (h : PRow W S v L) (hg : W.heap[g]? = some (.cells c 35 (0, 0))) (x : Only (fun k => k = g) W W') : PRow W' S v L := by
  refine ⟨(Row.kept (Row.min h) x (fun k hk e => ?_)).1, h.2⟩
  obtain ⟨c', hc⟩ := own_typeN h k hk
  rw [show k = g from e, hg] at hc
  simp only [Option.some.injEq, Obj.cells.injEq] at hc
  exact absurd hc.2.1 (by decide)
theorem wk_only {W W' : World} {g : Nat} {c : Array Value} {fb sb : Nat} {s : Bool} {st : List BS.Wt} (h : BS.WkAt W fb sb s st) (hg : W.heap[g]? = some (.cells c 35 (0, 0))) (x : Only (fun k => k = g) W W') : BS.WkAt W' fb sb s st := by
  refine h.only x (fun k (hk : k = g) => ?_)
  rw [hk]
  refine ⟨fun e => ?_, _, _, _, hg, by decide, by decide, by decide⟩
  obtain ⟨_, _, _, h4, _⟩ := h
  have h4' : W.heap[sb]? = some (Obj.cells #[.int .i64 (sd s)] 3 (0, 0)) := h4
  rw [← e, hg] at h4'
  simp only [Option.some.injEq, Obj.cells.injEq] at h4'
  exact absurd h4'.2.1 (by decide)
theorem step_seq (cb : Nat) (o : Int) (W : World) (B R : Nat) (t : Tr Int64 ByteArray) (L : List Pr) (u : Value) (h : PlS cb o W B R t L u) (i : Nat) (he : PlE o t L i) (hi : i ≤ 3999999999999) (d : Int) (k : Int64) (v : ByteArray) (nn : Int) (hd : d = 6 ∨ d = 7 ∨ d = 8) :
    Calls Try.prog 12 #[.pointer (some ⟨B, 0, none⟩), .pointer (some ⟨R, 0, none⟩), .agg #[.int .i64 d, .int .i64 k.toInt, .string v, .int .i64 nn]] W fun e W' => ∃ kv, e = .returned (.tuple #[kv, .bool true]) ∧ KpV W' (fun g => W.heap.size ≤ g) kv ∧ PlS cb o W' B R t L u ∧ PlF B R u u W W' := by
  have mixed := (by kernel_rfl : Try.prog.follows Departure.mixedOrders = true)
  obtain ⟨Wa, hWa⟩ : ∃ Wa, Wa = ((W.alloc (.cells #[.int .i64 d, .int .i64 k.toInt, .string v, .int .i64 nn] 39)).alloc (.cells #[.nilFunc, .slice none 0 0] 35)).alloc (.cells #[.nilFunc, .slice none 0 0] 35) := ⟨_, rfl⟩
  have xa : Ext W Wa := by rw [hWa]; exact (((Ext.refl W).alloc _).alloc _).alloc _
  have sb : SpB Wa W.heap.size (W.heap.size + 1) (W.heap.size + 1 + 1) d k v nn := by
    rw [hWa]
    refine ⟨?_, ?_, ?_⟩
    · exact ext_block (((Ext.refl _).alloc _).alloc _) (heap_alloc_new W _)
    · have h9 := ext_block ((Ext.refl _).alloc (.cells #[.nilFunc, .slice none 0 0] 35)) (heap_alloc_new (W.alloc (.cells #[.int .i64 d, .int .i64 k.toInt, .string v, .int .i64 nn] 39)) (.cells #[.nilFunc, .slice none 0 0] 35))
      rwa [World.size_alloc] at h9
    · have h9 := heap_alloc_new ((W.alloc (.cells #[.int .i64 d, .int .i64 k.toInt, .string v, .int .i64 nn] 39)).alloc (.cells #[.nilFunc, .slice none 0 0] 35)) (.cells #[.nilFunc, .slice none 0 0] 35)
      rwa [World.size_alloc, World.size_alloc] at h9
  have pa := h.ext xa
  have hcbl := h.cbl
  have xah : Hid (Ext W Wa) := xa
  have heh : Hid (PlE o t L i) := he
  clear xa h
  obtain ⟨g5, hg5⟩ : ∃ g, g = W.heap.size := ⟨_, rfl⟩
  obtain ⟨g6, hg6⟩ : ∃ g, g = W.heap.size + 1 := ⟨_, rfl⟩
  obtain ⟨g8, hg8⟩ : ∃ g, g = W.heap.size + 1 + 1 := ⟨_, rfl⟩
  have hg6w : Hid (W.heap.size ≤ g6) := by rw [hg6]; exact Nat.le_succ _
  have hg8w : Hid (W.heap.size ≤ g8) := by rw [hg8]; show _ ≤ _; omega
  have hg8c : Hid (cb ≠ g8) := by rw [hg8]; show _ ≠ _; omega
  have hg6c : Hid (cb ≠ g6) := by rw [hg6]; show _ ≠ _; omega
  have hn5 : Hid (¬ g5 = g6) := by show ¬ _; omega
  have hn8 : Hid (¬ g8 = g6) := by show ¬ _; omega
  rw [← hg8, ← hg6, ← hg5] at sb
  have sbh : Hid (SpB Wa g5 g6 g8 d k v nn) := sb
  have pah : Hid (PlS cb o Wa B R t L u) := pa
  have hln := he.len
  have hcn := he.cnt
  have hsrt : Srt (cmpI o) t.row := by rw [he.eq]; exact he.srt
  have hn6 : Hid (¬ g6 = g8) := by show ¬ _; omega
  have hn58 : Hid (¬ g5 = g8) := by show ¬ _; omega
  clear sb pa
  rcases hd with rfl | rfl | rfl
  · have K1 := BS.From_any cb o Wa.drew B t (pah.out.ext (Ext.refl Wa).drew).bg k (by omega)
    have K2 := fun W1 (x : Ext Wa W1) => qFrom W1 _ R o L (pah.out.ext x).rf (by omega) k
    have hxs0 : Hid (Tr.rest false (Tr.chainSk false (fun a => decide ((cmpI o) a k < 0)) t) = L.drop (rankL (cmpI o) k L)) := by
      show _ = _
      rw [from_row (cmpI_ord o) k t hsrt, he.eq]
    have hxl : Hid ((L.drop (rankL (cmpI o) k L)).length ≤ 4000000000000) := by
      show _ ≤ _
      rw [List.length_drop]; omega
    obtain ⟨xs, hxe⟩ : ∃ xs, L.drop (rankL (cmpI o) k L) = xs := ⟨_, rfl⟩
    simp only [hxe] at K2 hxs0 hxl
    obtain ⟨q50, q51, q52, q53⟩ := four_cells sbh.out.b5
    obtain ⟨q80, q81⟩ := two_cells sbh.out.b8
    clear hxe hsrt hln hcn heh
    go_enter Try.func12, Try.ntmps12
    go_upto_region 2 with fail
    rw [← hWa, ← hg8, ← hg6, ← hg5]
    clear hWa hg8 hg6 hg5
    go_wp2_with fail
    go_region_held3 (fun W => W.cell? ⟨g5, 1, none⟩ = some (.int .i64 k.toInt)) (go_keep) ((first | (go_at_call 45; refine K1.mono ?_; rintro _ W1 ⟨fb, sbb, st, rfl, kk, htt, x1, _⟩; have y := (sbh.out.ext (Ext.refl Wa).drew).ext x1; have y1 := (four_cells y.b5).2.1; have x1h : Hid (Ext Wa W1) := (Ext.refl Wa).drew.trans x1; have K3 := K2 W1 x1h.out; have kkh : Hid (BS.WkAt W1 fb sbb false st) := kk; have htth : Hid (BS.trs st = Tr.chainSk false (fun a => decide ((cmpI o) a k < 0)) t) := htt; clear x1 y kk htt) | (go_at_call 57; refine K3.mono ?_; rintro _ W2 ⟨wv, rfl, rw2, x2⟩; obtain ⟨wva, wvn, wvc, hwve, hwn⟩ := rw2.sl.shape; subst hwve; clear hwn; have x2h : Hid (Ext Wa W2) := x1h.out.trans x2; have s2 := sbh.out.ext x2h.out; have z1 := (four_cells s2.b5).2.1; have z3 := (two_cells s2.b8).1; have z4 := (two_cells s2.b8).2; have z7 := frozen_of_row W2 g8 0 _ _ s2.b8; have z8 := frozen_of_row W2 g8 1 _ _ s2.b8; have o8 := (set_kept rfl s2.b8 (BS.wkF fb sbb) (.slice wva wvn wvc)).2; have w1 := o8.cell z1 hn58.out; have rw2h : Hid (PRow W2 (fun k => W1.heap.size ≤ k) (.slice wva wvn wvc) xs) := rw2; have kk2h : Hid (BS.WkAt W2 fb sbb false st) := BS.WkS.ext kkh.out x2; have x12h : Hid (Ext W1 W2) := x2; clear o8 s2 x2 rw2)))
    all_goals
      have s2 := sbh.out.ext x2h.out
      obtain ⟨k8, o8⟩ := set_kept rfl s2.b8 (BS.wkF fb sbb) (.slice wva wvn wvc)
      have wk3 := wk_only kk2h.out s2.b8 o8
      have pr3 := prow_only rw2h.out s2.b8 o8
      have pl3 := (pah.out.ext x2h.out).goK s2.b8 hg8c.out o8
      have pf3 := (PlF.ext (B := B) (R := R) (u := u) (xah.out.trans x2h.out)).goK o8 hg8w.out
      have c53 := o8.cell (four_cells s2.b5).2.2.2 hn58.out
      have h63 : ((W2.setCell ⟨g8, 0, none⟩ (BS.wkF fb sbb)).setCell ⟨g8, 1, none⟩ (.slice wva wvn wvc)).heap[g6]? = some (.cells #[.nilFunc, .slice none 0 0] 35 (0, 0)) := (o8.block g6 (Array.getElem?_eq_some_iff.1 s2.b6).1 hn6.out).trans s2.b6
      have hx1 : W.heap.size ≤ W1.heap.size := (xah.out.trans x1h.out).size
      have all3 : Hid _ := And.intro k8 (And.intro wk3 (And.intro pr3 (And.intro pl3 (And.intro pf3 (And.intro h63 hx1)))))
      clear s2 o8 k8 wk3 pr3 pl3 pf3 h63 hx1 q50 q51 q52 q53 q80 q81 z3 z4 z7 z8
      go_wp2_with fail
      generalize (W2.setCell ⟨g8, 0, none⟩ (BS.wkF fb sbb)).setCell ⟨g8, 1, none⟩ (.slice wva wvn wvc) = W3 at *
      obtain ⟨k8, wk3, pr3, pl3, pf3, h63, hx1⟩ := all3.out
      have c8 := two_cells k8
      obtain ⟨c80, c81⟩ := c8
      have T1 := told_any W3.drew fb sbb false st (wk3.ext (Ext.refl W3).drew) xs (by rw [htth.out]; exact hxs0.out) hxl.out (.slice wva wvn wvc) ⟨(pr3.ext (Ext.refl W3).drew).1, fun _ _ => trivial⟩ nn
      have k8h : Hid _ := k8
      have c53h : Hid _ := c53
      clear k8 wk3 pr3 pl3 pf3 h63 hx1
      have c80h : Hid (W3.drew.cell? ⟨g8, 0, none⟩ = some (BS.wkF fb sbb)) := c80
      have c81h : Hid (W3.drew.cell? ⟨g8, 1, none⟩ = some (.slice wva wvn wvc)) := c81
      have c53h2 : Hid (W3.drew.cell? ⟨g5, 3, none⟩ = some (.int .i64 nn)) := c53
      go_region_held3 (fun W => W.cell? ⟨g8, 0, none⟩ = some (BS.wkF fb sbb) ∧ W.cell? ⟨g8, 1, none⟩ = some (.slice wva wvn wvc) ∧ W.cell? ⟨g5, 3, none⟩ = some (.int .i64 nn)) (go_keep) ((go_at_call 13; refine T1.mono ?_; rintro _ W4 ⟨rfl, x4⟩; have v1 := x4.cell c80h.out; have v2 := x4.cell c81h.out; have v3 := x4.cell c53h2.out; have x4h : Hid (Ext W3 W4) := (Ext.refl W3).drew.trans x4; have b64 := ext_block x4h.out all3.out.2.2.2.2.2.1; have v5 := (two_cells b64).1; have v6 := (two_cells b64).2; have v7 := frozen_of_row W4 g6 0 _ _ b64; have v8 := frozen_of_row W4 g6 1 _ _ b64; have o6 := (set_kept rfl b64 (BS.wkF fb sbb) (.slice wva wvn wvc)).2; have w1 := o6.cell v1 hn8.out; have w2 := o6.cell v2 hn8.out; have w3 := o6.cell v3 hn5.out; have b64h : Hid (W4.heap[g6]? = some (.cells #[.nilFunc, .slice none 0 0] 35 (0, 0))) := b64; clear o6 x4 b64))
      all_goals
        obtain ⟨k8, wk3, pr3, pl3, pf3, h63, hx1⟩ := all3.out
        obtain ⟨k6, o6⟩ := set_kept rfl b64h.out (BS.wkF fb sbb) (.slice wva wvn wvc)
        have k7h : Hid _ := two_cells k6
        have wk5 := wk_only (BS.WkS.ext wk3 x4h.out) b64h.out o6
        have pr5 := prow_only (pr3.ext x4h.out) b64h.out o6
        have pl5 := (pl3.ext x4h.out).goK b64h.out hg6c.out o6
        have pf5 := (pf3.trans (PlF.ext x4h.out)).goK o6 hg6w.out
        have fin2 : Hid _ := And.intro (KpV.some fb sbb false st _ xs wk5 (by rw [htth.out]; exact hxs0.out) hxl.out (Row.wide pr5 (fun g hg => Nat.le_trans hx1 hg))) (And.intro pl5 pf5)
        clear k8 wk3 pr3 pl3 pf3 h63 hx1 k6 o6 wk5 pr5 pl5 pf5 all3
        go_wp2
        (try simp only [Exit.inBlock, Exit.then])
        refine bodyPost_ret (results_kept rfl _ _ g6 _ _ rfl k7h.out.1 k7h.out.2) rfl ?_
        exact ⟨_, rfl, fin2.out.1, fin2.out.2.1, fin2.out.2.2⟩
  · have K1 := BS.UpTo_any cb o Wa.drew B t (pah.out.ext (Ext.refl Wa).drew).bg k (by omega)
    have K2 := fun W1 (x : Ext Wa W1) => qUpTo W1 _ R o L (pah.out.ext x).rf (by omega) k
    have hxs0 : Hid (Tr.rest true (Tr.chainSk true (fun a => decide (0 < (cmpI o) a k)) t) = upL (cmpI o) k L) := by
      show _ = _
      rw [up_row (cmpI_ord o) k t hsrt, he.eq]
    have hxl : Hid ((upL (cmpI o) k L).length ≤ 4000000000000) := by
      show _ ≤ _
      have h9 : (upL (cmpI o) k L).length ≤ L.length := by unfold upL; rw [List.length_reverse]; exact List.length_filter_le _ _
      omega
    obtain ⟨xs, hxe⟩ : ∃ xs, upL (cmpI o) k L = xs := ⟨_, rfl⟩
    simp only [hxe] at K2 hxs0 hxl
    obtain ⟨q50, q51, q52, q53⟩ := four_cells sbh.out.b5
    obtain ⟨q80, q81⟩ := two_cells sbh.out.b8
    clear hxe hsrt hln hcn heh
    go_enter Try.func12, Try.ntmps12
    go_upto_region 2 with fail
    rw [← hWa, ← hg8, ← hg6, ← hg5]
    clear hWa hg8 hg6 hg5
    go_wp2_with fail
    go_region_held3 (fun W => W.cell? ⟨g5, 1, none⟩ = some (.int .i64 k.toInt)) (go_keep) ((first | (go_at_call 46; refine K1.mono ?_; rintro _ W1 ⟨fb, sbb, st, rfl, kk, htt, x1, _⟩; have y := (sbh.out.ext (Ext.refl Wa).drew).ext x1; have y1 := (four_cells y.b5).2.1; have x1h : Hid (Ext Wa W1) := (Ext.refl Wa).drew.trans x1; have K3 := K2 W1 x1h.out; have kkh : Hid (BS.WkAt W1 fb sbb true st) := kk; have htth : Hid (BS.trs st = Tr.chainSk true (fun a => decide (0 < (cmpI o) a k)) t) := htt; clear x1 y kk htt) | (go_at_call 58; refine K3.mono ?_; rintro _ W2 ⟨wv, rfl, rw2, x2⟩; obtain ⟨wva, wvn, wvc, hwve, hwn⟩ := rw2.sl.shape; subst hwve; clear hwn; have x2h : Hid (Ext Wa W2) := x1h.out.trans x2; have s2 := sbh.out.ext x2h.out; have z1 := (four_cells s2.b5).2.1; have z3 := (two_cells s2.b8).1; have z4 := (two_cells s2.b8).2; have z7 := frozen_of_row W2 g8 0 _ _ s2.b8; have z8 := frozen_of_row W2 g8 1 _ _ s2.b8; have o8 := (set_kept rfl s2.b8 (BS.wkF fb sbb) (.slice wva wvn wvc)).2; have w1 := o8.cell z1 hn58.out; have rw2h : Hid (PRow W2 (fun k => W1.heap.size ≤ k) (.slice wva wvn wvc) xs) := rw2; have kk2h : Hid (BS.WkAt W2 fb sbb true st) := BS.WkS.ext kkh.out x2; have x12h : Hid (Ext W1 W2) := x2; clear o8 s2 x2 rw2)))
    all_goals
      have s2 := sbh.out.ext x2h.out
      obtain ⟨k8, o8⟩ := set_kept rfl s2.b8 (BS.wkF fb sbb) (.slice wva wvn wvc)
      have wk3 := wk_only kk2h.out s2.b8 o8
      have pr3 := prow_only rw2h.out s2.b8 o8
      have pl3 := (pah.out.ext x2h.out).goK s2.b8 hg8c.out o8
      have pf3 := (PlF.ext (B := B) (R := R) (u := u) (xah.out.trans x2h.out)).goK o8 hg8w.out
      have c53 := o8.cell (four_cells s2.b5).2.2.2 hn58.out
      have h63 : ((W2.setCell ⟨g8, 0, none⟩ (BS.wkF fb sbb)).setCell ⟨g8, 1, none⟩ (.slice wva wvn wvc)).heap[g6]? = some (.cells #[.nilFunc, .slice none 0 0] 35 (0, 0)) := (o8.block g6 (Array.getElem?_eq_some_iff.1 s2.b6).1 hn6.out).trans s2.b6
      have hx1 : W.heap.size ≤ W1.heap.size := (xah.out.trans x1h.out).size
      have all3 : Hid _ := And.intro k8 (And.intro wk3 (And.intro pr3 (And.intro pl3 (And.intro pf3 (And.intro h63 hx1)))))
      clear s2 o8 k8 wk3 pr3 pl3 pf3 h63 hx1 q50 q51 q52 q53 q80 q81 z3 z4 z7 z8
      go_wp2_with fail
      generalize (W2.setCell ⟨g8, 0, none⟩ (BS.wkF fb sbb)).setCell ⟨g8, 1, none⟩ (.slice wva wvn wvc) = W3 at *
      obtain ⟨k8, wk3, pr3, pl3, pf3, h63, hx1⟩ := all3.out
      have c8 := two_cells k8
      obtain ⟨c80, c81⟩ := c8
      have T1 := told_any W3.drew fb sbb true st (wk3.ext (Ext.refl W3).drew) xs (by rw [htth.out]; exact hxs0.out) hxl.out (.slice wva wvn wvc) ⟨(pr3.ext (Ext.refl W3).drew).1, fun _ _ => trivial⟩ nn
      have k8h : Hid _ := k8
      have c53h : Hid _ := c53
      clear k8 wk3 pr3 pl3 pf3 h63 hx1
      have c80h : Hid (W3.drew.cell? ⟨g8, 0, none⟩ = some (BS.wkF fb sbb)) := c80
      have c81h : Hid (W3.drew.cell? ⟨g8, 1, none⟩ = some (.slice wva wvn wvc)) := c81
      have c53h2 : Hid (W3.drew.cell? ⟨g5, 3, none⟩ = some (.int .i64 nn)) := c53
      go_region_held3 (fun W => W.cell? ⟨g8, 0, none⟩ = some (BS.wkF fb sbb) ∧ W.cell? ⟨g8, 1, none⟩ = some (.slice wva wvn wvc) ∧ W.cell? ⟨g5, 3, none⟩ = some (.int .i64 nn)) (go_keep) ((go_at_call 13; refine T1.mono ?_; rintro _ W4 ⟨rfl, x4⟩; have v1 := x4.cell c80h.out; have v2 := x4.cell c81h.out; have v3 := x4.cell c53h2.out; have x4h : Hid (Ext W3 W4) := (Ext.refl W3).drew.trans x4; have b64 := ext_block x4h.out all3.out.2.2.2.2.2.1; have v5 := (two_cells b64).1; have v6 := (two_cells b64).2; have v7 := frozen_of_row W4 g6 0 _ _ b64; have v8 := frozen_of_row W4 g6 1 _ _ b64; have o6 := (set_kept rfl b64 (BS.wkF fb sbb) (.slice wva wvn wvc)).2; have w1 := o6.cell v1 hn8.out; have w2 := o6.cell v2 hn8.out; have w3 := o6.cell v3 hn5.out; have b64h : Hid (W4.heap[g6]? = some (.cells #[.nilFunc, .slice none 0 0] 35 (0, 0))) := b64; clear o6 x4 b64))
      all_goals
        obtain ⟨k8, wk3, pr3, pl3, pf3, h63, hx1⟩ := all3.out
        obtain ⟨k6, o6⟩ := set_kept rfl b64h.out (BS.wkF fb sbb) (.slice wva wvn wvc)
        have k7h : Hid _ := two_cells k6
        have wk5 := wk_only (BS.WkS.ext wk3 x4h.out) b64h.out o6
        have pr5 := prow_only (pr3.ext x4h.out) b64h.out o6
        have pl5 := (pl3.ext x4h.out).goK b64h.out hg6c.out o6
        have pf5 := (pf3.trans (PlF.ext x4h.out)).goK o6 hg6w.out
        have fin2 : Hid _ := And.intro (KpV.some fb sbb true st _ xs wk5 (by rw [htth.out]; exact hxs0.out) hxl.out (Row.wide pr5 (fun g hg => Nat.le_trans hx1 hg))) (And.intro pl5 pf5)
        clear k8 wk3 pr3 pl3 pf3 h63 hx1 k6 o6 wk5 pr5 pl5 pf5 all3
        go_wp2
        (try simp only [Exit.inBlock, Exit.then])
        refine bodyPost_ret (results_kept rfl _ _ g6 _ _ rfl k7h.out.1 k7h.out.2) rfl ?_
        exact ⟨_, rfl, fin2.out.1, fin2.out.2.1, fin2.out.2.2⟩
  · have K1 := BS.All_any cb o Wa B t pah.out.bg (by omega)
    have K2 := fun W1 (x : Ext Wa W1) => qAll W1 _ R o L (pah.out.ext x).rf (by omega)
    have hxs0 : Hid (Tr.rest false (Tr.chainSk false (fun _ => false) t) = L) := by
      show _ = _
      rw [all_row, he.eq]
    have hxl : Hid ((L).length ≤ 4000000000000) := by
      show _ ≤ _
      omega
    obtain ⟨xs, hxe⟩ : ∃ xs, L = xs := ⟨_, rfl⟩
    simp only [hxe] at K2 hxs0 hxl
    obtain ⟨q50, q51, q52, q53⟩ := four_cells sbh.out.b5
    obtain ⟨q80, q81⟩ := two_cells sbh.out.b8
    clear hxe hsrt hln hcn heh
    go_enter Try.func12, Try.ntmps12
    go_upto_region 2 with fail
    rw [← hWa, ← hg8, ← hg6, ← hg5]
    clear hWa hg8 hg6 hg5
    go_wp2_with fail
    go_at_call 14
    refine K1.mono ?_
    rintro _ W1 ⟨fb, sbb, st, rfl, kk, htt, x1, _⟩
    have x1h : Hid (Ext Wa W1) := x1
    have K3 := K2 W1 x1h.out
    have kkh : Hid (BS.WkAt W1 fb sbb false st) := kk
    have htth : Hid (BS.trs st = Tr.chainSk false (fun _ => false) t) := htt
    clear x1 kk htt
    go_wp2_with fail
    go_at_call 15
    refine K3.mono ?_
    rintro _ W2 ⟨wv, rfl, rw2, x2⟩
    obtain ⟨wva, wvn, wvc, hwve, hwn⟩ := rw2.sl.shape
    subst hwve
    clear hwn
    have x2h : Hid (Ext Wa W2) := x1h.out.trans x2
    have s2 := sbh.out.ext x2h.out
    have z3 := (two_cells s2.b8).1
    have z4 := (two_cells s2.b8).2
    have z7 := frozen_of_row W2 g8 0 _ _ s2.b8
    have z8 := frozen_of_row W2 g8 1 _ _ s2.b8
    have rw2h : Hid (PRow W2 (fun k => W1.heap.size ≤ k) (.slice wva wvn wvc) xs) := rw2
    have kk2h : Hid (BS.WkAt W2 fb sbb false st) := BS.WkS.ext kkh.out x2
    clear s2 x2 rw2
    all_goals
      have s2 := sbh.out.ext x2h.out
      obtain ⟨k8, o8⟩ := set_kept rfl s2.b8 (BS.wkF fb sbb) (.slice wva wvn wvc)
      have wk3 := wk_only kk2h.out s2.b8 o8
      have pr3 := prow_only rw2h.out s2.b8 o8
      have pl3 := (pah.out.ext x2h.out).goK s2.b8 hg8c.out o8
      have pf3 := (PlF.ext (B := B) (R := R) (u := u) (xah.out.trans x2h.out)).goK o8 hg8w.out
      have c53 := o8.cell (four_cells s2.b5).2.2.2 hn58.out
      have h63 : ((W2.setCell ⟨g8, 0, none⟩ (BS.wkF fb sbb)).setCell ⟨g8, 1, none⟩ (.slice wva wvn wvc)).heap[g6]? = some (.cells #[.nilFunc, .slice none 0 0] 35 (0, 0)) := (o8.block g6 (Array.getElem?_eq_some_iff.1 s2.b6).1 hn6.out).trans s2.b6
      have hx1 : W.heap.size ≤ W1.heap.size := (xah.out.trans x1h.out).size
      have all3 : Hid _ := And.intro k8 (And.intro wk3 (And.intro pr3 (And.intro pl3 (And.intro pf3 (And.intro h63 hx1)))))
      clear s2 o8 k8 wk3 pr3 pl3 pf3 h63 hx1 q50 q51 q52 q53 q80 q81
      go_wp2_with fail
      clear z3 z4 z7 z8
      generalize (W2.setCell ⟨g8, 0, none⟩ (BS.wkF fb sbb)).setCell ⟨g8, 1, none⟩ (.slice wva wvn wvc) = W3 at *
      obtain ⟨k8, wk3, pr3, pl3, pf3, h63, hx1⟩ := all3.out
      have c8 := two_cells k8
      obtain ⟨c80, c81⟩ := c8
      have T1 := told_any W3.drew fb sbb false st (wk3.ext (Ext.refl W3).drew) xs (by rw [htth.out]; exact hxs0.out) hxl.out (.slice wva wvn wvc) ⟨(pr3.ext (Ext.refl W3).drew).1, fun _ _ => trivial⟩ nn
      have k8h : Hid _ := k8
      have c53h : Hid _ := c53
      clear k8 wk3 pr3 pl3 pf3 h63 hx1
      have c80h : Hid (W3.drew.cell? ⟨g8, 0, none⟩ = some (BS.wkF fb sbb)) := c80
      have c81h : Hid (W3.drew.cell? ⟨g8, 1, none⟩ = some (.slice wva wvn wvc)) := c81
      have c53h2 : Hid (W3.drew.cell? ⟨g5, 3, none⟩ = some (.int .i64 nn)) := c53
      go_region_held3 (fun W => W.cell? ⟨g8, 0, none⟩ = some (BS.wkF fb sbb) ∧ W.cell? ⟨g8, 1, none⟩ = some (.slice wva wvn wvc) ∧ W.cell? ⟨g5, 3, none⟩ = some (.int .i64 nn)) (go_keep) ((go_at_call 13; refine T1.mono ?_; rintro _ W4 ⟨rfl, x4⟩; have v1 := x4.cell c80h.out; have v2 := x4.cell c81h.out; have v3 := x4.cell c53h2.out; have x4h : Hid (Ext W3 W4) := (Ext.refl W3).drew.trans x4; have b64 := ext_block x4h.out all3.out.2.2.2.2.2.1; have v5 := (two_cells b64).1; have v6 := (two_cells b64).2; have v7 := frozen_of_row W4 g6 0 _ _ b64; have v8 := frozen_of_row W4 g6 1 _ _ b64; have o6 := (set_kept rfl b64 (BS.wkF fb sbb) (.slice wva wvn wvc)).2; have w1 := o6.cell v1 hn8.out; have w2 := o6.cell v2 hn8.out; have w3 := o6.cell v3 hn5.out; have b64h : Hid (W4.heap[g6]? = some (.cells #[.nilFunc, .slice none 0 0] 35 (0, 0))) := b64; clear o6 x4 b64))
      all_goals
        obtain ⟨k8, wk3, pr3, pl3, pf3, h63, hx1⟩ := all3.out
        obtain ⟨k6, o6⟩ := set_kept rfl b64h.out (BS.wkF fb sbb) (.slice wva wvn wvc)
        have k7h : Hid _ := two_cells k6
        have wk5 := wk_only (BS.WkS.ext wk3 x4h.out) b64h.out o6
        have pr5 := prow_only (pr3.ext x4h.out) b64h.out o6
        have pl5 := (pl3.ext x4h.out).goK b64h.out hg6c.out o6
        have pf5 := (pf3.trans (PlF.ext x4h.out)).goK o6 hg6w.out
        have fin2 : Hid _ := And.intro (KpV.some fb sbb false st _ xs wk5 (by rw [htth.out]; exact hxs0.out) hxl.out (Row.wide pr5 (fun g hg => Nat.le_trans hx1 hg))) (And.intro pl5 pf5)
        clear k8 wk3 pr3 pl3 pf3 h63 hx1 k6 o6 wk5 pr5 pl5 pf5 all3
        go_wp2
        (try simp only [Exit.inBlock, Exit.then])
        refine bodyPost_ret (results_kept rfl _ _ g6 _ _ rfl k7h.out.1 k7h.out.2) rfl ?_
        exact ⟨_, rfl, fin2.out.1, fin2.out.2.1, fin2.out.2.2⟩
end
end Go.Proofs.Ytkdfgjdencelkaa
