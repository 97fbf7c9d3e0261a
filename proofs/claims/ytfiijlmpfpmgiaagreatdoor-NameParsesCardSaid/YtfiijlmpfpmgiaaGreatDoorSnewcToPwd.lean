/-
  New, of a schema with one class, where all is well.
-/
import Derived.Test.YtfiijlmpfpmgiaaGreatDoorSmkd
import Derived.Test.YtfiijlmpfpmgiaaGreatDoorStype
import Derived.Test.YtfiijlmpfpmgiaaGreatDoorStkc
import Derived.Test.YtfiijlmpfpmgiaaGreatDoorKeyToSleaf
import Derived.Test.YtfiijlmpfpmgiaaGreatDoorSrul
import Derived.Deep.QuietTactic
import Derived.Shelf.Small.Bits
import Derived.Test.YtfiijlmpfpmgiaaGreatDoorChecked
import Derived.Test.YtfiijlmpfpmgiaaGreatDoorShelfToStrs
namespace Go.Proofs.YtfiijlmpfpmgiaaGreatDoor
open Go.RowKit

set_option maxRecDepth 100000 in
set_option maxHeartbeats 1000000 in
theorem Type_at (w : World) (p m n : Nat) (f : List UInt8 → Option Int) (s : ByteArray) (hc : w.cell? ⟨p, 2, none⟩ = some (.map (some m))) (hm : MapAt w m n f) (hs : s.size ≤ 281474976710656) :
    Calls Tryz.prog 93 #[.pointer (some ⟨p, 0, none⟩), .string s] w fun e w' => e = .returned (.int .i64 ((f (lowL (byt s))).getD (-1))) ∧ Ext w w' := by
  have hf := find_any w m n f s hm hs
  generalize (f (lowL (byt s))).getD (-1) = z at *
  clear hm
  go_enter Tryz.func93, Tryz.ntmps93
  go_wp2_with (go_at_call 114; refine hf.mono ?_; rintro _ w2 ⟨rfl, x2⟩)
  go_ret
  exact ⟨rfl, x2⟩

def ocW : ByteArray := ⟨#[111, 98, 106, 101, 99, 116, 67, 108, 97, 115, 115]⟩
/-- there is a type that tells the classes -/
def okClass (f : List UInt8 → Option Int) (ts : List Ty) : Prop := ∃ j : Nat, f (lowL (byt ocW)) = some (j : Int) ∧ ∃ t, ts[j]? = some t ∧ t.syn = 8 ∧ t.eq = 20 ∧ t.single = false
set_option maxRecDepth 100000 in
set_option maxHeartbeats 4000000 in
theorem tellsC_ok (W : World) (p s m cnt n : Nat) (f : List UInt8 → Option Int) (qs : List TyP) (ts : List Ty) (S : Nat → Prop) (fv : Value) (hlen : qs.length = n) (hfst : qs.map Prod.fst = ts) (e0 : W.cell? ⟨p, 0, none⟩ = some (.pointer (some ⟨s, 0, none⟩))) (s2 : W.cell? ⟨s, 2, none⟩ = some (.map (some m))) (s4 : W.cell? ⟨s, 4, none⟩ = some fv) (hm : MapAt W m cnt f) (hff : Row W S 137 9 fv n (flat qs)) (hok : okClass f ts) :
    Calls Tryz.prog 66 #[.pointer (some ⟨p, 0, none⟩)] W fun e W' => e = .returned (.bool true) ∧ Ext W W' := by
  obtain ⟨j, hf, t, hj, h1, h2, h3⟩ := hok
  rw [← hfst] at hj
  have hjq : j < qs.length := by
    rcases Nat.lt_or_ge j qs.length with h | h
    · exact h
    · rw [List.getElem?_eq_none (by simpa using h)] at hj; cases hj
  have htj : qs[j].1 = t := by simpa [hjq] using hj
  have hjn : j < n := by omega
  have hT := Type_at W s m cnt f ocW s2 hm (by decide)
  rw [hf] at hT
  have hT' : Calls Tryz.prog 93 #[.pointer (some ⟨s, 0, none⟩), .string ⟨#[111, 98, 106, 101, 99, 116, 67, 108, 97, 115, 115]⟩] W fun e w' => e = .returned (.int .i64 (j : Int)) ∧ Hid (Ext W w') := hT
  obtain ⟨gf, cf, rfl⟩ : ∃ gf cf, fv = .slice (some ⟨gf, 0, none⟩) n cf := by
    rcases hff.1.2 with ⟨e', hl⟩ | ⟨g', cap, cur, e', _⟩
    · omega
    · exact ⟨g', cap, e'⟩
  have hcap := TySl_len hff
  have n3 := nine_cells hff j 3 hjq (.int .i8 8) (by rw [← h1, ← htj]; rfl)
  have n4 := nine_cells hff j 4 hjq (.int .i8 20) (by rw [← h2, ← htj]; rfl)
  have n7 := nine_cells hff j 7 hjq (.bool false) (by rw [← h3, ← htj]; rfl)
  have hji : (j : Int) < (n : Int) := by omega
  clear hT hff hj htj h1 h2 h3 hf hm s2 hlen
  go_enter Tryz.func66, Tryz.ntmps66
  go_wp2_with (go_at_call 93; refine hT'.mono ?_; rintro _ w2 ⟨rfl, x2⟩; have e2 := x2.out.cell e0; have s2 := x2.out.cell s4; have m3 := x2.out.cell n3; have m4 := x2.out.cell n4; have m7 := x2.out.cell n7)
  go_ret
  exact ⟨rfl, x2.out⟩

/-- all that is asked of a schema whose types have nothing above them -/
structure okSchema (ts : List Ty) : Prop where
  len : ts.length ≤ 1024
  short : ∀ t ∈ ts, Short t
  flat : ∀ t ∈ ts, t.sup = ⟨#[]⟩
  each : ∀ k t, ts[k]? = some t → okType (tmap ts ts.length) k t
  tells : okClass (tmap ts ts.length) ts
/-- a schema in memory: its words and its full types -/
structure ScC (n : Nat) (ts : List Ty) (p : Nat) (qs : List TyP) (W : World) : Prop where
  gt : ∃ H cnt fv, W.cell? ⟨p, 2, none⟩ = some (.map (some H)) ∧ MapAt W H cnt (tmap ts ts.length) ∧ W.cell? ⟨p, 4, none⟩ = some fv ∧ Row W (fun _ => True) 137 9 fv n (flat qs)
  fst : qs.map Prod.fst = ts
  nam : ∀ q ∈ qs, Sl encS W q.2 q.1.names
theorem row_same {W W' : World} {S : Nat → Prop} {e : TypeId} {sz n : Nat} {v : Value} {xs : List Value} (h : Row W S e sz v n xs) (k : ∀ b, own v b → W'.heap[b]? = W.heap[b]?) : Row W' S e sz v n xs := by
  refine ⟨⟨h.1.1, ?_⟩, h.2⟩
  rcases h.1.2 with h1 | ⟨g, cap, cur, rfl, h2, hg, h3⟩
  · exact .inl h1
  · exact .inr ⟨g, cap, cur, rfl, h2, (k g rfl).trans hg, h3⟩
/-- what stands beside the types -/
def exOf (D : Dc) (gu cu : Nat) (W : World) : Ex := ⟨W, fun b => b = D.gc ∨ own D.nc b ∨ b = gu, .slice (some ⟨D.gc, 0, none⟩) 1 D.cc, .slice (some ⟨gu, 0, none⟩) 1 cu, D.cn, D.cf⟩
theorem MkU.tk {D : Dc} {w : World} {n : Nat} {v : Value} {ts : List Ty} {H : Nat} {a : Option Addr} {c : Nat} {qs : List TyP} {cnt : Nat} {f : List UInt8 → Option Int} {sv : Value} {gu cu : Nat} {W : World} (h : MkU D w n v ts H a c qs cnt f n sv gu cu W) : TkS (exOf D gu cu W) w n ts H a c qs cnt f sv 0 0 (.slice none 0 0) (.slice none 0 0) W := by
  refine ⟨h.gt, h.fst, h.row, h.own, h.mt, h.mc, h.sc, h.mb, h.sup, row_nil _ _ _ _, row_nil _ _ _ _, h.ext, ?_, fun b hb => (own_none b hb).elim, fun b hb => (own_none b hb).elim⟩
  rintro b (rfl | hb | rfl)
  · exact ⟨h.cls.lt rfl, rfl, .inl (h.cls.2 _ rfl).2⟩
  · exact ⟨Row.lt h.cnm hb, rfl, .inl (h.cnm.2 _ hb).2⟩
  · exact ⟨h.ups.lt rfl, rfl, .inr (h.ups.2 _ rfl)⟩
set_option maxRecDepth 100000 in
set_option maxHeartbeats 4000000 in
theorem NewC_ok (w : World) (v : Value) (ps : List TyP) (hs : TySl w v ps) (hr : HasRules w) (hok : okSchema (ps.map Prod.fst)) (g0 o0 k0 : Nat) (cl : Cl) (na0 : Option Addr) (nn0 nc0 : Nat) (hcn : Sl encS w (.slice na0 nn0 nc0) cl.names) (hcs : (∀ y ∈ cl.oid :: cl.names, y.size ≤ 281474976710656) ∧ cl.names.length ≤ 1000) (hcc : ∀ j u, (clL cl (.slice na0 nn0 nc0))[j]? = some u → w.cell? ⟨g0, o0 + j, none⟩ = some u)
    (hcw : okWords cl.oid cl.names) (hcp : okPlace (putL 0 (fun _ => none) (cl.oid :: cl.names)) 0 cl.oid cl.names) (hck : cl.kind = 1) :
    Calls Tryz.prog 42 #[.agg #[v, .slice (some ⟨g0, o0, none⟩) 1 k0]] w fun e w' => ∃ p qs, e = .returned (.tuple #[.pointer (some ⟨p, 0, none⟩), .int .i64 0, .int .i64 0]) ∧ ScC ps.length (ps.map Prod.fst) p qs w' ∧ Ext w w' := by
  have hlen : ps.length ≤ 1024 := by have := hok.len; simpa using this
  have hgr : 6 < w.heap.size := World.block_lt_of_cell? w _ (hr 0 (by omega)).1
  have hmk := fun w1 (x : Ext w w1) => newMakerC_any w1 v ps (hs.ext x) g0 o0 k0 cl na0 nn0 nc0 (hcn.ext x) hcs (fun j u hu => x.cell (hcc j u hu)) hlen (fun p hp => hok.short _ (List.mem_map_of_mem hp)) (fun p hp => hok.flat _ (List.mem_map_of_mem hp))
  obtain ⟨⟨av0, cv, rfl, _⟩, _⟩ := hs
  generalize hn : ps.length = n at *
  have hnh : Hid (ps.length = n) := hn
  have hni : ¬ (1024 : Int) < (n : Int) := by omega
  have hB := heap_alloc_new w (.cells #[.slice av0 n cv, .slice (some ⟨g0, o0, none⟩) 1 k0] 97)
  have x1 : Ext w (w.alloc (.cells #[.slice av0 n cv, .slice (some ⟨g0, o0, none⟩) 1 k0] 97)) := (Ext.refl w).alloc _
  have hz1 : Hid ((w.alloc (.cells #[.slice av0 n cv, .slice (some ⟨g0, o0, none⟩) 1 k0] 97)).heap.size = w.heap.size + 1) := by show _ = _; simp
  clear hn
  go_enter Tryz.func42, Tryz.ntmps42
  go_upto_region 1 with fail
  generalize w.alloc (.cells #[.slice av0 n cv, .slice (some ⟨g0, o0, none⟩) 1 k0] 97) = w1 at *
  have b0 := cell_of_row _ _ 0 _ _ _ hB
  have b1 := cell_of_row _ _ 1 _ _ _ hB
  simp only [List.getElem?_toArray, List.getElem?_cons_zero, List.getElem?_cons_succ] at b0 b1
  have hm1 := hmk w1 x1
  have x1h : Hid (Ext w w1) := x1
  have hBh : Hid _ := hB
  clear hmk x1 hB
  go_upto_region 4 with (go_at_call 63; refine hm1.mono ?_; rintro _ w2 ⟨H, a, c, qs, sa, cs, D, gu, cu, rfl, hDl, hDn, hDf, MU⟩)
  have x2 := MU.ext
  have hH := MU.gt
  have hfst := MU.fst
  have hT0 : TkS (exOf D gu cu w2) w1 n (ps.map Prod.fst) H a c qs (tcnt (ps.map Prod.fst) n) (tmap (ps.map Prod.fst) n) (.slice sa n cs) 0 0 (.slice none 0 0) (.slice none 0 0) w2 := MU.tk
  have MUh : Hid _ := MU
  have d0 := x2.cell b0
  have hT0h : Hid _ := hT0
  have x02 : Hid (Ext w w2) := x1h.out.trans x2
  have hHh : Hid (w1.heap.size < H) := hH
  clear hT0 hm1 MU
  have hts : (ps.map Prod.fst).length = n := by rw [List.length_map]; exact hnh.out
  have d1 := x2.cell b1
  clear x2 b0 b1
  go_wp2
  go_loopw [6, 7, 25] (fun _ _ i wr => ∃ (k : Nat) (av fv : Value), k ≤ n ∧ i = .int .i64 k ∧ Hid (TkS (exOf D gu cu w2) w1 n (ps.map Prod.fst) H a c qs (tcnt (ps.map Prod.fst) n) (tmap (ps.map Prod.fst) n) (.slice sa n cs) k k av fv wr ∧ Only (fun b => H + 2 ≤ b) w2 wr)) (fun _ _ i _ => n - (intOf i).toNat)
  case atStart => exact ⟨0, _, _, Nat.zero_le _, rfl, hT0h.out, Only.refl _ _⟩
  case round =>
    obtain ⟨k, av, fv, hk, rfl, HR⟩ := hrel
    by_cases hlt : k < n
    · have hlt' : (k : Int) < (n : Int) := by omega
      have hkq : k < qs.length := by rw [HR.out.1.len]; exact hlt
      have hge : (ps.map Prod.fst)[k]? = some qs[k].1 := by rw [← hfst]; simp [hkq]
      have hz := hz1.out
      have hHz := hHh.out
      have hty := takeType_ok (exOf D gu cu w2) w1 n (ps.map Prod.fst) H a c qs _ _ (.slice sa n cs) k av fv wr HR.out.1 hlt hlen hkq (fun p hp => hok.flat _ (by rw [← hfst]; exact List.mem_map_of_mem hp)) ((hr.ext x02.out).only HR.out.2 (by omega)) (by omega) (by have := hok.each k _ hge; rwa [hts] at this)
      clear hge hz hHz
      go_wp2_with (go_at_call 64; refine hty.mono ?_; rintro _ w4 ⟨av4, fv4, rfl, T4, O4⟩)
      go_roundw
      case rel => exact ⟨k + 1, av4, fv4, hlt, by go_num, T4, HR.out.2.then O4⟩
      case measure => simp [intOf]; omega
    · have hlt' : ¬ (k : Int) < (n : Int) := by omega
      obtain rfl : k = n := by omega
      obtain ⟨T, O⟩ := HR.out
      have hz := hz1.out
      have hHz := hHh.out
      have g1 := O.cell d1 (by show ¬ _ ≤ _; simp; omega)
      have hMU := MUh.out
      have hblk : ∀ b, b = D.gc ∨ own D.nc b ∨ b = gu → wr.heap[b]? = w2.heap[b]? := fun b hb => (T.fix b hb).2.1
      obtain ⟨ea, ec, hnc9⟩ := row_slice hMU.cnm
      have hkc : KcS (H + 3) (H + 2) D.gc D.cc gu cu (H + 1) H (.slice a k c) (.slice sa k cs) fv av D.cl ea D.cl.names.length ec (.slice none 0 0) wr := by
        refine ⟨T.mb, T.sc, fun j u hu => ?_, ?_⟩
        · have r1 := row_same hMU.cls (fun b hb => hblk b (.inl (by simpa [own, Value.ownBlock] using hb.symm)))
          have := World.ownsRow.cells r1.1 (g := D.gc) rfl j u (by rw [hnc9]; exact hu)
          rwa [Addr.add_lit, Nat.zero_add] at this
        · have r2 := row_same hMU.ups (fun b hb => hblk b (.inr (.inr (by simpa [own, Value.ownBlock] using hb.symm))))
          have := World.ownsRow.cells r2.1 (g := gu) rfl 0 (.slice none 0 0) rfl
          rwa [Addr.add_lit, Nat.zero_add] at this
      have hnm : Sl encS wr (.slice ea D.cl.names.length ec) D.cl.names := by
        have r3 : RowE 9 encS wr _ D.nc D.cl.names := row_same hMU.cnm (fun b hb => hblk b (.inr (.inl hb)))
        have := r3.sl
        rwa [hnc9] at this
      have hmc : MapAt wr (H + 1) D.cn D.cf := T.mc
      rw [hDf] at hmc
      have htc := takeClass_ok wr (H + 3) (H + 2) D.gc D.cc gu cu (H + 1) H D.cn _ (.slice a k c) (.slice sa k cs) fv av D.cl ea D.cl.names.length ec hkc hmc hnm (by rw [hDl]; exact hcw) (by rw [hDl]; exact hcp) (by rw [hDl]; exact hck)
      have e0 := cell_of_row _ _ 0 _ _ _ T.mb
      simp only [List.getElem?_toArray, List.getElem?_cons_zero] at e0
      have Th : Hid (TkS (exOf D gu cu w2) w1 k (ps.map Prod.fst) H a c qs (tcnt (ps.map Prod.fst) k) (tmap (ps.map Prod.fst) k) (.slice sa k cs) k k av fv wr) := T
      have Oh : Hid (Only (fun b => H + 2 ≤ b) w2 wr) := O
      clear T O hz hHz d0 d1 hT0h hkc hnm hmc hblk hMU
      go_wp2
      refine wp_loop_rounds 2 ?_
      rw [rounds_succ]
      go_wp2_with (go_at_call 65; refine htc.mono ?_; rintro _ w4 ⟨rfl, O4, gp, cp, hs4⟩)
      have T := Th.out
      have hgt := T.gt
      have f0 := O4.cell e0 (by show ¬ H + 3 = H + 2; omega)
      have s2 := cell_of_row _ _ 2 _ _ _ hs4
      have s4 := cell_of_row _ _ 4 _ _ _ hs4
      simp only [List.getElem?_toArray, List.getElem?_cons_zero, List.getElem?_cons_succ] at s2 s4
      have hq : qs.take k = qs := List.take_of_length_le (by rw [T.len]; exact Nat.le_refl _)
      have hful := T.ful
      rw [hq] at hful
      have hful4 := Row.kept hful O4 (fun g hg => by omega)
      have hmt4 := T.mt.only O4 (by omega)
      have hown4 : ∀ p ∈ qs, RowE 9 encS w4 (fun b => w1.heap.size < b ∧ b < H) p.2 p.1.names := fun p hp => Row.kept (T.own p hp) O4 (fun g hg => by omega)
      have htl := tellsC_ok w4 (H + 3) (H + 2) H _ k _ qs (ps.map Prod.fst) _ fv T.len hfst f0 s2 s4 hmt4 hful4 (by have := hok.tells; rwa [hts] at this)
      have K1 : Hid (Row w4 (fun b => H + 4 ≤ b) 137 9 fv k (flat qs)) := hful4
      have K2 : Hid (MapAt w4 H (tcnt (ps.map Prod.fst) k) (tmap (ps.map Prod.fst) k)) := hmt4
      have K3 : Hid _ := hown4
      have K4 : Hid (w4.cell? ⟨H + 2, 2, none⟩ = some (.map (some H)) ∧ w4.cell? ⟨H + 2, 4, none⟩ = some fv) := ⟨s2, s4⟩
      have K5 : Hid (Ext w w4) := (x02.out.then Oh.out (fun b hb => by have := x1h.out.size; omega)).then O4 (fun b hb => by have := x1h.out.size; omega)
      clear T hful hful4 hmt4 hown4 s2 s4 hq O4 e0
      rw [rounds_succ]
      go_wp2_with (go_at_call 66; refine htl.mono ?_; rintro _ w5 ⟨rfl, x5⟩; have e5 := x5.cell f0)
      go_ret3
      refine ⟨H + 2, qs, rfl, ⟨⟨H, tcnt (ps.map Prod.fst) k, fv, x5.cell K4.out.1, ?_, x5.cell K4.out.2, (Row.wide (K1.out.ext x5) (fun _ _ => trivial))⟩, hfst, fun q hq => (RowE.ext (K3.out q hq) x5).sl⟩, K5.out.trans x5⟩
      rw [hts]
      exact K2.out.ext x5
end Go.Proofs.YtfiijlmpfpmgiaaGreatDoor

/-
  schema.Full, schema.Form; keys by a form.
-/
namespace Go.Proofs.YtfiijlmpfpmgiaaGreatDoor
open Go.RowKit

def zT : Ty := ⟨⟨#[]⟩, [], ⟨#[]⟩, 0, 0, 0, 0, false, 0⟩
/-- a type that is in a schema's Full -/
def FullAt (w : World) (p : Nat) (k : Nat) (t : Ty) : Prop := ∃ g n c a0 c0, k < n ∧ n ≤ c ∧ w.cell? ⟨p, 4, none⟩ = some (.slice (some ⟨g, 0, none⟩) n c) ∧ t.names.length ≤ 1000000000 ∧ Sl encS w (.slice a0 t.names.length c0) t.names ∧ ∀ i u, (tyA t (.slice a0 t.names.length c0))[i]? = some u → w.cell? ⟨g, k * 9 + i, none⟩ = some u
theorem FullAt.ext {w w' : World} {p k : Nat} {t : Ty} (h : FullAt w p k t) (x : Ext w w') : FullAt w' p k t := by
  obtain ⟨g, n, c, a0, c0, h1, h2, h3, h4, h5, h6⟩ := h
  exact ⟨g, n, c, a0, c0, h1, h2, x.cell h3, h4, h5.ext x, fun i u hu => x.cell (h6 i u hu)⟩
set_option maxRecDepth 100000 in
theorem hasType_ok (w : World) (p k : Nat) (t : Ty) (h : FullAt w p k t) : Calls Tryz.prog 160 #[.pointer (some ⟨p, 0, none⟩), .int .i64 k] w fun e w' => e = .returned (.bool true) ∧ w' = w := by
  obtain ⟨g, n, c, a0, c0, h1, h2, h3, h4, h5, h6⟩ := h
  have h1i : (k : Int) < (n : Int) := by omega
  clear h5 h6
  go_enter Tryz.func160, Tryz.ntmps160
  go_wp2
  go_ret
  exact ⟨rfl, rfl⟩
set_option maxRecDepth 100000 in
set_option maxHeartbeats 2000000 in
theorem Full_ok (w : World) (p k : Nat) (t : Ty) (h : FullAt w p k t) : Calls Tryz.prog 132 #[.pointer (some ⟨p, 0, none⟩), .int .i64 k] w fun e w' => ∃ a c, e = .returned (.agg (tyA t (.slice a t.names.length c))) ∧ Ext w w' := by
  have hh := fun w1 (x : Ext w w1) => hasType_ok w1 p k t (h.ext x)
  obtain ⟨g, n, c, a0, c0, h1, h2, h3, h4, h5, h6⟩ := h
  have htw := fun w1 (x : Ext w w1) => twinType_any w1 t (.slice a0 t.names.length c0) (h5.ext x) h4
  have hki : (k : Int) < (n : Int) := by omega
  obtain ⟨oid, names, sup, syn, eq, ord, prt, single, ix⟩ := t
  have x1 : Ext w (w.alloc (.cells (tyA zT (.slice none 0 0)) 137)) := (Ext.refl w).alloc _
  have HA := heap_alloc_new w (.cells (tyA zT (.slice none 0 0)) 137)
  have hh1 := hh _ x1
  have tw1 := htw _ x1
  have e4 := x1.cell h3
  have c0' := x1.cell (h6 0 _ rfl)
  have c1 := x1.cell (h6 1 _ rfl)
  have c2 := x1.cell (h6 2 _ rfl)
  have c3 := x1.cell (h6 3 _ rfl)
  have c4 := x1.cell (h6 4 _ rfl)
  have c5 := x1.cell (h6 5 _ rfl)
  have c6 := x1.cell (h6 6 _ rfl)
  have c7 := x1.cell (h6 7 _ rfl)
  have c8 := x1.cell (h6 8 _ rfl)
  have x1h : Hid (Ext w (w.alloc (.cells (tyA zT (.slice none 0 0)) 137))) := x1
  simp only [Nat.add_zero] at c0'
  clear h3 h5 h6 hh htw x1
  simp only [tyA, zT] at *
  go_enter Tryz.func132, Tryz.ntmps132
  go_upto_region 1 with fail
  generalize w.alloc (.cells #[.string ⟨#[]⟩, .slice none 0 0, .string ⟨#[]⟩, .int .i8 0, .int .i8 0, .int .i8 0, .int .i8 0, .bool false, .int .u8 0] 137) = w1 at *
  generalize hg : w.heap.size = ga at *
  have hgh : Hid (w.heap.size = ga) := hg
  have HAh : Hid (w1.heap[ga]? = _) := HA
  clear hg HA
  go_wp2_with (first | (go_at_call 160; refine hh1.mono ?_; rintro _ w2 ⟨rfl, rfl⟩) | (go_at_call 112; refine tw1.mono ?_; rintro _ w3 ⟨u, rfl, r3, x3⟩; obtain ⟨a3, cc3, hu⟩ := row_slice r3; subst hu; have HA3 := (x3.block _ (Array.getElem?_eq_some_iff.1 HAh.out).1).trans HAh.out; have q := fun j => cell_of_row _ _ j _ _ _ HA3; have q0 := q 0; have q1 := q 1; have q2 := q 2; have q3 := q 3; have q4 := q 4; have q5 := q 5; have q6 := q 6; have q7 := q 7; have q8 := q 8; simp only [List.getElem?_toArray, List.getElem?_cons_zero, List.getElem?_cons_succ] at q0 q1 q2 q3 q4 q5 q6 q7 q8; have fq : ∀ j, w3.frozen? ⟨ga, j, none⟩ = false := (fun j => by simp [World.frozen?, HA3]); clear q))
  have HA4 := (x3.block _ (Array.getElem?_eq_some_iff.1 HAh.out).1).trans HAh.out
  have H4 := set9_heap w3 ga _ _ _ _ _ _ _ _ _ (.string oid) (.slice a3 names.length cc3) (.string sup) (.int .i8 syn) (.int .i8 eq) (.int .i8 ord) (.int .i8 prt) (.bool single) (.int .u8 ix) _ _ HA4
  refine bodyPost_ret (results_agg rfl _ _ ga [.string oid, .slice a3 names.length cc3, .string sup, .int .i8 syn, .int .i8 eq, .int .i8 ord, .int .i8 prt, .bool single, .int .u8 ix] 9 rfl Tryz.isAgg137 Tryz.sizeOf137 rfl (nine_of H4)) rfl ?_
  exact ⟨_, _, rfl, (x1h.out.trans x3).then (set9_only w3 ga 0 _ _ _ _ _ _ _ _ _) (fun k hk => by rw [hgh.out, hk]; exact Nat.le_refl _)⟩
set_option maxRecDepth 100000 in
theorem Form_ok (w : World) (ht : HasRules w) (r : Nat) (hr : r < 21) :
    Calls Tryz.prog 131 #[.int .i8 (r : Int)] w fun e w' => e = .returned (.tuple #[.int .i8 (srAt r).2.2, .int .i8 (srAt r).2.1]) ∧ ∃ m, w' = w.drewN m := by
  have hi := fun w => isRule_ok w r hr
  obtain ⟨c1, c2, c3⟩ := ht r hr
  generalize (srAt r).2.2 = f at *
  generalize (srAt r).2.1 = g at *
  have hri : (r : Int) < 21 := by omega
  go_enter Tryz.func131, Tryz.ntmps131
  go_wp2_with (go_at_call 156; refine (hi _).mono ?_; rintro _ w2 ⟨rfl, rfl⟩)
  go_quiet (fail)
  go_wp2
  go_ret2
  exact ⟨rfl, _, rfl⟩
theorem Ext.ofN {w : World} (m : Nat) : Ext w (w.drewN m) := (Ext.refl w).drewN m
set_option maxRecDepth 100000 in
set_option maxHeartbeats 1000000 in
theorem byForm_fold (w : World) (ht : HasTab w) (hr : HasRules w) (kp : Value) (oid : ByteArray) (a : Option Addr) (n c : Nat) (sup : ByteArray) (syn ord prt : Int) (single : Bool) (ix : Int) (s : ByteArray) (hs : s.size ≤ 65536) :
    Calls Tryz.prog 95 #[kp, .agg #[.string oid, .slice a n c, .string sup, .int .i8 syn, .int .i8 1, .int .i8 ord, .int .i8 prt, .bool single, .int .u8 ix], .string s] w fun e w' => e = .returned (ans (keySp true (byt s))) ∧ Ext w w' := by
  have x0 := (Ext.refl w).alloc (.cells #[.string oid, .slice a n c, .string sup, .int .i8 syn, .int .i8 1, .int .i8 ord, .int .i8 prt, .bool single, .int .u8 ix] 137)
  have hf : Calls Tryz.prog 131 #[.int .i8 1] (w.alloc (.cells #[.string oid, .slice a n c, .string sup, .int .i8 syn, .int .i8 1, .int .i8 ord, .int .i8 prt, .bool single, .int .u8 ix] 137)) fun e w' => e = .returned (.tuple #[.int .i8 0, .int .i8 0]) ∧ Hid (Ext w w') := by
    refine (Form_ok _ (hr.ext x0) 1 (by decide)).mono ?_
    rintro _ w' ⟨rfl, m, rfl⟩
    exact ⟨rfl, x0.trans (Ext.ofN m)⟩
  have hk := fun w1 (x : Ext w w1) => Key0_any w1 (by obtain ⟨g, o, c, h⟩ := ht; exact ⟨g, o, c, h.below x (Nat.le_refl _)⟩) s hs
  generalize keySp true (byt s) = o at *
  go_enter Tryz.func95, Tryz.ntmps95
  go_wp2_with fail
  go_at_call 131
  refine hf.mono ?_
  rintro _ w2 ⟨rfl, x2⟩
  have hk2 := hk w2 x2.out
  go_wp2_with fail
  go_at_call 130
  refine hk2.mono ?_
  rintro _ w3 ⟨rfl, f3⟩
  simp only [ans]
  go_wp2
  go_ret2
  exact ⟨rfl, Ext.trans x2.out f3.1⟩
end Go.Proofs.YtfiijlmpfpmgiaaGreatDoor

/-
  Further bodies of the library's functions in this program that the library's contracts speak of.
-/
namespace Go.Proofs
open Go.Shelf
def Tryz.lays125_ren : Go.Shelf.Ren := ⟨fun | 125 => 164 | 128 => 193 | 129 => 194 | n => n, fun | 46 => 85 | 3 => 3 | 51 => 267 | 53 => 243 | 4 => 4 | 5 => 5 | 9 => 9 | n => n, fun | n => n⟩
theorem Tryz.lays125 : Go.Proofs.Lays.n125 Tryz.prog Tryz.lays125_ren := {
  mixed := by kernel_rfl
  f125 := Tryz.func164.trans (congrArg some (by kernel_rfl))
  f128 := Tryz.func193.trans (congrArg some (by kernel_rfl))
  f129 := Tryz.func194.trans (congrArg some (by kernel_rfl))
  t3 := Tryz.underlying3
  a3 := Tryz.isAgg3
  z3 := Tryz.sizeOf3
  v3 := Tryz.zeroValue3
  t4 := Tryz.underlying4
  a4 := Tryz.isAgg4
  z4 := Tryz.sizeOf4
  v4 := Tryz.zeroValue4
  t5 := Tryz.underlying5
  a5 := Tryz.isAgg5
  z5 := Tryz.sizeOf5
  v5 := Tryz.zeroValue5
  t9 := Tryz.underlying9
  a9 := Tryz.isAgg9
  z9 := Tryz.sizeOf9
  v9 := Tryz.zeroValue9
  t46 := Tryz.underlying85
  a46 := Tryz.isAgg85
  z46 := Tryz.sizeOf85
  v46 := Tryz.zeroValue85
  t51 := Tryz.underlying267
  a51 := Tryz.isAgg267
  z51 := Tryz.sizeOf267
  v51 := Tryz.zeroValue267
  t53 := Tryz.underlying243
  a53 := Tryz.isAgg243
  z53 := Tryz.sizeOf243
  v53 := Tryz.zeroValue243 }
end Go.Proofs

/-
  slices.SortFunc of one pair, slices.ContainsFunc of none.
-/
namespace Go.Proofs.YtfiijlmpfpmgiaaGreatDoor
open Go.RowKit

theorem bitsLen (x : Int) (w : World) (h0 : 0 ≤ x) (h1 : x ≤ 18446744073709551615) : Calls Tryz.prog 164 #[.int .u64 x] w fun e w' => e = .returned (.int .i64 (Lib.bitLen x.toNat)) ∧ w' = w := Any.bits_Len Tryz.lays125 x w h0 h1
set_option maxRecDepth 100000 in
theorem insertK_one (w : World) (a : Option Addr) (c : Nat) (fv : Value) : Calls Tryz.prog 185 #[.slice a 1 c, .int .i64 0, .int .i64 1, fv] w fun e w' => e = .returned (.tuple #[]) ∧ w' = w := by
  go_enter Tryz.func185, Tryz.ntmps185
  go_wp2
  refine wp_loop_rounds 1 ?_
  rw [rounds_succ]
  go_wp2
  go_end0
  exact ⟨rfl, rfl⟩
set_option maxRecDepth 100000 in
set_option maxHeartbeats 1000000 in
theorem pdqK_one (w : World) (a : Option Addr) (c : Nat) (z : Int) (fv : Value) : Calls Tryz.prog 163 #[.slice a 1 c, .int .i64 0, .int .i64 1, .int .i64 z, fv] w fun e w' => e = .returned (.tuple #[]) ∧ w' = w := by
  have hi := fun w => insertK_one w a c fv
  go_enter Tryz.func163, Tryz.ntmps163
  go_wp2
  refine wp_loop_rounds 1 ?_
  rw [rounds_succ]
  go_wp2_with (go_at_call 185; refine (hi _).mono ?_; rintro _ w2 ⟨rfl, rfl⟩)
  (try simp only [Exit.inBlock, Exit.then]); refine bodyPost_ret (results_none rfl _ _ _) rfl ?_
  exact ⟨rfl, rfl⟩
set_option maxRecDepth 100000 in
set_option maxHeartbeats 1000000 in
theorem sortK_one (w : World) (a : Option Addr) (c : Nat) (fv : Value) : Calls Tryz.prog 136 #[.slice a 1 c, fv] w fun e w' => e = .returned (.tuple #[]) ∧ w' = w := by
  have hb := fun w => bitsLen 1 w (by decide) (by decide)
  have hp := fun w z => pdqK_one w a c z fv
  go_enter Tryz.func136, Tryz.ntmps136
  go_wp2_with (first
    | (go_at_call 164; refine (hb _).mono ?_; rintro _ w2 ⟨rfl, rfl⟩)
    | (go_at_call 163; refine (hp _ _).mono ?_; rintro _ w3 ⟨rfl, rfl⟩))
  go_end0
  exact ⟨rfl, rfl⟩
set_option maxRecDepth 100000 in
theorem indexK_nil (w : World) (fv : Value) : Calls Tryz.prog 162 #[.slice none 0 0, fv] w fun e w' => e = .returned (.int .i64 (-1)) ∧ w' = w := by
  go_enter Tryz.func162, Tryz.ntmps162
  go_wp2
  refine wp_loop_rounds 1 ?_
  rw [rounds_succ]
  go_wp2
  go_ret
  exact ⟨rfl, rfl⟩
set_option maxRecDepth 100000 in
theorem containsK_nil (w : World) (fv : Value) : Calls Tryz.prog 134 #[.slice none 0 0, fv] w fun e w' => e = .returned (.bool false) ∧ w' = w := by
  have hi := indexK_nil
  go_enter Tryz.func134, Tryz.ntmps134
  go_wp2_with (go_at_call 162; refine (hi _ _).mono ?_; rintro _ w2 ⟨rfl, rfl⟩)
  go_ret
  exact ⟨rfl, rfl⟩
end Go.Proofs.YtfiijlmpfpmgiaaGreatDoor

/-
  A type's word, plain: how far it goes, and whether it is a whole one.
-/
namespace Go.Proofs.YtfiijlmpfpmgiaaGreatDoor

/-- what may stand next: 0 a word or a row, 1 more of a word, 2 a row, 3 more of a row, 4 the dot behind a nought -/
def wNext (st : Nat) (d : Bool) (b : UInt8) : Option (Nat × Bool) :=
  if st = 1 then (if isLet b || isDig b || b == 45 then some (1, d) else none)
  else if st = 3 then (if isDig b then some (3, d) else if b = 46 then some (2, true) else none)
  else if st = 4 then (if b = 46 then some (2, true) else none)
  else if st = 0 ∧ isLet b = true then some (1, d)
  else if b = 48 then some (4, d) else if isDig b then some (3, d) else none
def wEnd (st : Nat) (d : Bool) : Bool := st == 1 || (d && st != 2)
def wGo : Nat → Bool → List UInt8 → Nat × Bool
  | st, d, [] => (0, wEnd st d)
  | st, d, b :: t => match wNext st d b with
    | none => (0, wEnd st d)
    | some (st', d') => ((wGo st' d' t).1 + 1, (wGo st' d' t).2)
/-- the whole row is a word -/
def wOk (st : Nat) (d : Bool) (l : List UInt8) : Prop := wGo st d l = (l.length, true)
theorem wOk_nil (st : Nat) (d : Bool) : wOk st d [] ↔ wEnd st d = true := by
  unfold wOk; rw [wGo]; simp
theorem wOk_none {st : Nat} {d : Bool} {b : UInt8} {t : List UInt8} (h : wNext st d b = none) : ¬ wOk st d (b :: t) := by
  unfold wOk; rw [wGo, h]; simp
theorem wOk_some {st st' : Nat} {d d' : Bool} {b : UInt8} {t : List UInt8} (h : wNext st d b = some (st', d')) : wOk st d (b :: t) ↔ wOk st' d' t := by
  unfold wOk; rw [wGo, h]
  simp only [Prod.ext_iff, List.length_cons]
  constructor <;> rintro ⟨h1, h2⟩ <;> exact ⟨by omega, h2⟩
theorem splitD_ne : ∀ l, splitD l ≠ []
  | [] => by simp [splitD]
  | b :: t => by
    rw [splitD]
    split
    · simp
    · split <;> simp
theorem splitD_dot (t : List UInt8) : splitD (46 :: t) = [] :: splitD t := by rw [splitD, if_pos rfl]
theorem splitD_other {b : UInt8} {t r : List UInt8} {rs : List (List UInt8)} (hb : b ≠ 46) (h : splitD t = r :: rs) : splitD (b :: t) = (b :: r) :: rs := by rw [splitD, if_neg hb, h]
theorem dig_dot {b : UInt8} (h : isDig b = true) : b ≠ 46 := by
  intro e; subst e; exact absurd h (by decide)
theorem cnt_zero (r : List UInt8) : isCnt (48 :: r) = true ↔ r = [] := by
  rw [isCnt_iff]; simp
  intro h; subst h; decide
theorem cnt_dig {b : UInt8} (h : isDig b = true) (h0 : b ≠ 48) (r : List UInt8) : isCnt (b :: r) = true ↔ r.all isDig = true := by
  rw [isCnt_iff]; simp [h, h0]
theorem cnt_not {b : UInt8} (h : isDig b = false) (r : List UInt8) : isCnt (b :: r) = false := by
  cases hc : isCnt (b :: r) with
  | false => rfl
  | true => have := ((isCnt_iff _).1 hc).1; simp [h] at this
theorem wRow : ∀ (l : List UInt8) (r : List UInt8) (rs : List (List UInt8)), splitD l = r :: rs →
    (∀ d, wOk 3 d l ↔ (r.all isDig = true ∧ rs.all isCnt = true ∧ (d = true ∨ rs ≠ []))) ∧
    (∀ d, wOk 4 d l ↔ (r = [] ∧ rs.all isCnt = true ∧ (d = true ∨ rs ≠ []))) ∧
    (wOk 2 true l ↔ (isCnt r = true ∧ rs.all isCnt = true))
  | [], r, rs, h => by
    obtain ⟨rfl, rfl⟩ := List.cons.inj (show [] :: [] = r :: rs from h)
    refine ⟨fun d => ?_, fun d => ?_, ?_⟩
    · rw [wOk_nil]; cases d <;> decide
    · rw [wOk_nil]; cases d <;> decide
    · rw [wOk_nil]; decide
  | b :: t, r, rs, h => by
    obtain ⟨r', rs', ht⟩ : ∃ r' rs', splitD t = r' :: rs' := by
      cases e : splitD t with
      | nil => exact absurd e (splitD_ne t)
      | cons x y => exact ⟨x, y, rfl⟩
    obtain ⟨i3, i4, i2⟩ := wRow t r' rs' ht
    by_cases hb : b = 46
    · subst hb
      rw [splitD_dot, ht] at h
      obtain ⟨rfl, rfl⟩ := List.cons.inj h
      refine ⟨fun d => ?_, fun d => ?_, ?_⟩
      · rw [wOk_some (show wNext 3 d 46 = some (2, true) from rfl), i2]; simp
      · rw [wOk_some (show wNext 4 d 46 = some (2, true) from rfl), i2]; simp
      · have : ¬ wOk 2 true (46 :: t) := wOk_none (by decide)
        simp [this, show isCnt [] = false from rfl]
    · rw [splitD_other hb ht] at h
      obtain ⟨rfl, rfl⟩ := List.cons.inj h
      cases hd : isDig b with
      | true =>
        refine ⟨fun d => ?_, fun d => ?_, ?_⟩
        · rw [wOk_some (show wNext 3 d b = some (3, d) by simp [wNext, hd]), i3]; simp [hd]
        · have : ¬ wOk 4 d (b :: t) := wOk_none (by simp [wNext, hb])
          simp [this]
        · by_cases h0 : b = 48
          · subst h0
            rw [wOk_some (show wNext 2 true 48 = some (4, true) from rfl), i4, cnt_zero]; simp
          · rw [wOk_some (show wNext 2 true b = some (3, true) by simp [wNext, hd, h0]), i3, cnt_dig hd h0]; simp
      | false =>
        have h0 : b ≠ 48 := fun e => by subst e; exact absurd hd (by decide)
        refine ⟨fun d => ?_, fun d => ?_, ?_⟩
        · have : ¬ wOk 3 d (b :: t) := wOk_none (by simp [wNext, hd, hb])
          simp [this, hd]
        · have : ¬ wOk 4 d (b :: t) := wOk_none (by simp [wNext, hb])
          simp [this]
        · have : ¬ wOk 2 true (b :: t) := wOk_none (by simp [wNext, hd, h0])
          simp [this, cnt_not hd]
theorem wWord : ∀ (l : List UInt8) (d : Bool), wOk 1 d l ↔ l.all (fun b => isLet b || isDig b || b == 45) = true
  | [], d => by rw [wOk_nil]; cases d <;> decide
  | b :: t, d => by
    cases hb : (isLet b || isDig b || b == 45) with
    | true =>
      rw [wOk_some (show wNext 1 d b = some (1, d) by simp only [wNext, if_true, hb]), wWord t d, List.all_cons, hb, Bool.true_and]
    | false =>
      have : ¬ wOk 1 d (b :: t) := wOk_none (by simp only [wNext, if_true, hb, Bool.false_eq_true, if_false])
      rw [List.all_cons, hb]; simp [this]
theorem let_dig {b : UInt8} (h : isLet b = true) : isDig b = false ∧ b ≠ 46 ∧ b ≠ 48 := by
  refine ⟨?_, ?_, ?_⟩
  · unfold isLet at h; unfold isDig; simp at h; simp; omega
  · intro e; subst e; exact absurd h (by decide)
  · intro e; subst e; exact absurd h (by decide)
theorem dotB_cons {b : UInt8} {t r : List UInt8} {rs : List (List UInt8)} (h : splitD (b :: t) = r :: rs) : dotB (b :: t) = true ↔ isCnt r = true ∧ rs.all isCnt = true ∧ rs ≠ [] := by
  unfold dotB
  rw [h, Bool.and_eq_true, List.all_cons, Bool.and_eq_true, decide_eq_true_eq, List.length_cons]
  cases rs <;> simp
/-- a type's word is a word, or a row of counts with dots between -/
theorem word_ok (l : List UInt8) : wOk 0 false l ↔ (wordB l = true ∨ dotB l = true) := by
  cases l with
  | nil => rw [wOk_nil]; decide
  | cons b t =>
    obtain ⟨r, rs, ht⟩ : ∃ r rs, splitD t = r :: rs := by
      cases e : splitD t with
      | nil => exact absurd e (splitD_ne t)
      | cons x y => exact ⟨x, y, rfl⟩
    obtain ⟨i3, i4, _⟩ := wRow t r rs ht
    cases hl : isLet b with
    | true =>
      obtain ⟨g1, g2, g3⟩ := let_dig hl
      rw [wOk_some (show wNext 0 false b = some (1, false) by simp [wNext, hl]), wWord, dotB_cons (splitD_other g2 ht), cnt_not g1]
      simp [wordB, hl]
    | false =>
      have hw : wordB (b :: t) = false := by simp [wordB, hl]
      rw [hw]
      by_cases hb : b = 46
      · subst hb
        have : ¬ wOk 0 false (46 :: t) := wOk_none (by decide)
        have hd : dotB (46 :: t) = false := by unfold dotB; rw [splitD_dot]; rfl
        simp [this, hd]
      · rw [dotB_cons (splitD_other hb ht)]
        cases hd : isDig b with
        | true =>
          by_cases h0 : b = 48
          · subst h0
            rw [wOk_some (show wNext 0 false 48 = some (4, false) from rfl), i4, cnt_zero]; simp
          · rw [wOk_some (show wNext 0 false b = some (3, false) by simp [wNext, hd, h0, hl]), i3, cnt_dig hd h0]; simp
        | false =>
          have h0 : b ≠ 48 := fun e => by subst e; exact absurd hd (by decide)
          have : ¬ wOk 0 false (b :: t) := wOk_none (by simp [wNext, hd, h0, hl])
          simp [this, cnt_not hd]
end Go.Proofs.YtfiijlmpfpmgiaaGreatDoor
