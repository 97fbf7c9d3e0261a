/-
  New, of a schema with one class, where all is well.
-/
import Derived.Test.YthifcfdbifhanaaGreatDoorSmkd
import Derived.Test.YthifcfdbifhanaaGreatDoorStype
import Derived.Test.YthifcfdbifhanaaGreatDoorStkc
namespace Go.Proofs.YthifcfdbifhanaaGreatDoor
open Go.RowKit

set_option maxRecDepth 100000 in
set_option maxHeartbeats 1000000 in
theorem Type_at (w : World) (p m n : Nat) (f : List UInt8 → Option Int) (s : ByteArray) (hc : w.cell? ⟨p, 2, none⟩ = some (.map (some m))) (hm : MapAt w m n f) (hs : s.size ≤ 281474976710656) :
    Calls Tryz.prog 83 #[.pointer (some ⟨p, 0, none⟩), .string s] w fun e w' => e = .returned (.int .i64 ((f (lowL (byt s))).getD (-1))) ∧ Ext w w' := by
  have hf := find_any w m n f s hm hs
  generalize (f (lowL (byt s))).getD (-1) = z at *
  clear hm
  go_enter Tryz.func83, Tryz.ntmps83
  go_wp2_with (go_at_call 101; refine hf.mono ?_; rintro _ w2 ⟨rfl, x2⟩)
  go_ret
  exact ⟨rfl, x2⟩

def ocW : ByteArray := ⟨#[111, 98, 106, 101, 99, 116, 67, 108, 97, 115, 115]⟩
/-- there is a type that tells the classes -/
def okClass (f : List UInt8 → Option Int) (ts : List Ty) : Prop := ∃ j : Nat, f (lowL (byt ocW)) = some (j : Int) ∧ ∃ t, ts[j]? = some t ∧ t.syn = 8 ∧ t.eq = 20 ∧ t.single = false
set_option maxRecDepth 100000 in
set_option maxHeartbeats 4000000 in
theorem tellsC_ok (W : World) (p s m cnt n : Nat) (f : List UInt8 → Option Int) (qs : List TyP) (ts : List Ty) (S : Nat → Prop) (fv : Value) (hlen : qs.length = n) (hfst : qs.map Prod.fst = ts) (e0 : W.cell? ⟨p, 0, none⟩ = some (.pointer (some ⟨s, 0, none⟩))) (s2 : W.cell? ⟨s, 2, none⟩ = some (.map (some m))) (s4 : W.cell? ⟨s, 4, none⟩ = some fv) (hm : MapAt W m cnt f) (hff : Row W S 99 9 fv n (flat qs)) (hok : okClass f ts) :
    Calls Tryz.prog 56 #[.pointer (some ⟨p, 0, none⟩)] W fun e W' => e = .returned (.bool true) ∧ Ext W W' := by
  obtain ⟨j, hf, t, hj, h1, h2, h3⟩ := hok
  rw [← hfst] at hj
  have hjq : j < qs.length := by
    rcases Nat.lt_or_ge j qs.length with h | h
    · exact h
    · rw [List.getElem?_eq_none (by simpa using h)] at hj; cases hj
  have htj : qs[j].1 = t := by simpa [hjq] using hj
  have hjn : j < n := by omega
  have hT := Type_at W s m cnt f ocW s2 hm (by decide)
  rw [hf] at hT
  have hT' : Calls Tryz.prog 83 #[.pointer (some ⟨s, 0, none⟩), .string ⟨#[111, 98, 106, 101, 99, 116, 67, 108, 97, 115, 115]⟩] W fun e w' => e = .returned (.int .i64 (j : Int)) ∧ Hid (Ext W w') := hT
  obtain ⟨gf, cf, rfl⟩ : ∃ gf cf, fv = .slice (some ⟨gf, 0, none⟩) n cf := by
    rcases hff.1.2 with ⟨e', hl⟩ | ⟨g', cap, cur, e', _⟩
    · omega
    · exact ⟨g', cap, e'⟩
  have hcap := TySl_len hff
  have n3 := nine_cells hff j 3 hjq (.int .i8 8) (by rw [← h1, ← htj]; rfl)
  have n4 := nine_cells hff j 4 hjq (.int .i8 20) (by rw [← h2, ← htj]; rfl)
  have n7 := nine_cells hff j 7 hjq (.bool false) (by rw [← h3, ← htj]; rfl)
  have hji : (j : Int) < (n : Int) := by omega
  clear hT hff hj htj h1 h2 h3 hf hm s2 hlen
  go_enter Tryz.func56, Tryz.ntmps56
  go_wp2_with (go_at_call 83; refine hT'.mono ?_; rintro _ w2 ⟨rfl, x2⟩; have e2 := x2.out.cell e0; have s2 := x2.out.cell s4; have m3 := x2.out.cell n3; have m4 := x2.out.cell n4; have m7 := x2.out.cell n7)
  go_ret
  exact ⟨rfl, x2.out⟩

/-- all that is asked of a schema whose types have nothing above them -/
structure okSchema (ts : List Ty) : Prop where
  len : ts.length ≤ 1024
  short : ∀ t ∈ ts, Short t
  flat : ∀ t ∈ ts, t.sup = ⟨#[]⟩
  each : ∀ k t, ts[k]? = some t → okType (tmap ts ts.length) k t
  tells : okClass (tmap ts ts.length) ts
/-- a schema in memory: its words and its full types -/
structure ScC (n : Nat) (ts : List Ty) (p : Nat) (qs : List TyP) (W : World) : Prop where
  gt : ∃ H cnt fv, W.cell? ⟨p, 2, none⟩ = some (.map (some H)) ∧ MapAt W H cnt (tmap ts ts.length) ∧ W.cell? ⟨p, 4, none⟩ = some fv ∧ Row W (fun _ => True) 99 9 fv n (flat qs)
  fst : qs.map Prod.fst = ts
  nam : ∀ q ∈ qs, Sl encS W q.2 q.1.names
theorem row_same {W W' : World} {S : Nat → Prop} {e : TypeId} {sz n : Nat} {v : Value} {xs : List Value} (h : Row W S e sz v n xs) (k : ∀ b, own v b → W'.heap[b]? = W.heap[b]?) : Row W' S e sz v n xs := by
  refine ⟨⟨h.1.1, ?_⟩, h.2⟩
  rcases h.1.2 with h1 | ⟨g, cap, cur, rfl, h2, hg, h3⟩
  · exact .inl h1
  · exact .inr ⟨g, cap, cur, rfl, h2, (k g rfl).trans hg, h3⟩
/-- what stands beside the types -/
def exOf (D : Dc) (gu cu : Nat) (W : World) : Ex := ⟨W, fun b => b = D.gc ∨ own D.nc b ∨ b = gu, .slice (some ⟨D.gc, 0, none⟩) 1 D.cc, .slice (some ⟨gu, 0, none⟩) 1 cu, D.cn, D.cf⟩
theorem MkU.tk {D : Dc} {w : World} {n : Nat} {v : Value} {ts : List Ty} {H : Nat} {a : Option Addr} {c : Nat} {qs : List TyP} {cnt : Nat} {f : List UInt8 → Option Int} {sv : Value} {gu cu : Nat} {W : World} (h : MkU D w n v ts H a c qs cnt f n sv gu cu W) : TkS (exOf D gu cu W) w n ts H a c qs cnt f sv 0 0 (.slice none 0 0) (.slice none 0 0) W := by
  refine ⟨h.gt, h.fst, h.row, h.own, h.mt, h.mc, h.sc, h.mb, h.sup, row_nil _ _ _ _, row_nil _ _ _ _, h.ext, ?_, fun b hb => (own_none b hb).elim, fun b hb => (own_none b hb).elim⟩
  rintro b (rfl | hb | rfl)
  · exact ⟨h.cls.lt rfl, rfl, .inl (h.cls.2 _ rfl).2⟩
  · exact ⟨Row.lt h.cnm hb, rfl, .inl (h.cnm.2 _ hb).2⟩
  · exact ⟨h.ups.lt rfl, rfl, .inr (h.ups.2 _ rfl)⟩
set_option maxRecDepth 100000 in
set_option maxHeartbeats 4000000 in
theorem NewC_ok (w : World) (v : Value) (ps : List TyP) (hs : TySl w v ps) (hr : HasRules w) (hok : okSchema (ps.map Prod.fst)) (g0 o0 k0 : Nat) (cl : Cl) (na0 : Option Addr) (nn0 nc0 : Nat) (hcn : Sl encS w (.slice na0 nn0 nc0) cl.names) (hcs : (∀ y ∈ cl.oid :: cl.names, y.size ≤ 281474976710656) ∧ cl.names.length ≤ 1000) (hcc : ∀ j u, (clL cl (.slice na0 nn0 nc0))[j]? = some u → w.cell? ⟨g0, o0 + j, none⟩ = some u)
    (hcw : okWords cl.oid cl.names) (hcp : okPlace (putL 0 (fun _ => none) (cl.oid :: cl.names)) 0 cl.oid cl.names) (hck : cl.kind = 1) :
    Calls Tryz.prog 36 #[.agg #[v, .slice (some ⟨g0, o0, none⟩) 1 k0]] w fun e w' => ∃ p qs, e = .returned (.tuple #[.pointer (some ⟨p, 0, none⟩), .int .i64 0, .int .i64 0]) ∧ ScC ps.length (ps.map Prod.fst) p qs w' ∧ Ext w w' := by
  have hlen : ps.length ≤ 1024 := by have := hok.len; simpa using this
  have hgr : 5 < w.heap.size := World.block_lt_of_cell? w _ (hr 0 (by omega)).1
  have hmk := fun w1 (x : Ext w w1) => newMakerC_any w1 v ps (hs.ext x) g0 o0 k0 cl na0 nn0 nc0 (hcn.ext x) hcs (fun j u hu => x.cell (hcc j u hu)) hlen (fun p hp => hok.short _ (List.mem_map_of_mem hp)) (fun p hp => hok.flat _ (List.mem_map_of_mem hp))
  obtain ⟨⟨av0, cv, rfl, _⟩, _⟩ := hs
  generalize hn : ps.length = n at *
  have hnh : Hid (ps.length = n) := hn
  have hni : ¬ (1024 : Int) < (n : Int) := by omega
  have hB := heap_alloc_new w (.cells #[.slice av0 n cv, .slice (some ⟨g0, o0, none⟩) 1 k0] 73)
  have x1 : Ext w (w.alloc (.cells #[.slice av0 n cv, .slice (some ⟨g0, o0, none⟩) 1 k0] 73)) := (Ext.refl w).alloc _
  have hz1 : Hid ((w.alloc (.cells #[.slice av0 n cv, .slice (some ⟨g0, o0, none⟩) 1 k0] 73)).heap.size = w.heap.size + 1) := by show _ = _; simp
  clear hn
  go_enter Tryz.func36, Tryz.ntmps36
  go_upto_region 1 with fail
  generalize w.alloc (.cells #[.slice av0 n cv, .slice (some ⟨g0, o0, none⟩) 1 k0] 73) = w1 at *
  have b0 := cell_of_row _ _ 0 _ _ _ hB
  have b1 := cell_of_row _ _ 1 _ _ _ hB
  simp only [List.getElem?_toArray, List.getElem?_cons_zero, List.getElem?_cons_succ] at b0 b1
  have hm1 := hmk w1 x1
  have x1h : Hid (Ext w w1) := x1
  have hBh : Hid _ := hB
  clear hmk x1 hB
  go_upto_region 4 with (go_at_call 53; refine hm1.mono ?_; rintro _ w2 ⟨H, a, c, qs, sa, cs, D, gu, cu, rfl, hDl, hDn, hDf, MU⟩)
  have x2 := MU.ext
  have hH := MU.gt
  have hfst := MU.fst
  have hT0 : TkS (exOf D gu cu w2) w1 n (ps.map Prod.fst) H a c qs (tcnt (ps.map Prod.fst) n) (tmap (ps.map Prod.fst) n) (.slice sa n cs) 0 0 (.slice none 0 0) (.slice none 0 0) w2 := MU.tk
  have MUh : Hid _ := MU
  have d0 := x2.cell b0
  have hT0h : Hid _ := hT0
  have x02 : Hid (Ext w w2) := x1h.out.trans x2
  have hHh : Hid (w1.heap.size < H) := hH
  clear hT0 hm1 MU
  have hts : (ps.map Prod.fst).length = n := by rw [List.length_map]; exact hnh.out
  have d1 := x2.cell b1
  clear x2 b0 b1
  go_wp2
  go_loopw [6, 7, 25] (fun _ _ i wr => ∃ (k : Nat) (av fv : Value), k ≤ n ∧ i = .int .i64 k ∧ Hid (TkS (exOf D gu cu w2) w1 n (ps.map Prod.fst) H a c qs (tcnt (ps.map Prod.fst) n) (tmap (ps.map Prod.fst) n) (.slice sa n cs) k k av fv wr ∧ Only (fun b => H + 2 ≤ b) w2 wr)) (fun _ _ i _ => n - (intOf i).toNat)
  case atStart => exact ⟨0, _, _, Nat.zero_le _, rfl, hT0h.out, Only.refl _ _⟩
  case round =>
    obtain ⟨k, av, fv, hk, rfl, HR⟩ := hrel
    by_cases hlt : k < n
    · have hlt' : (k : Int) < (n : Int) := by omega
      have hkq : k < qs.length := by rw [HR.out.1.len]; exact hlt
      have hge : (ps.map Prod.fst)[k]? = some qs[k].1 := by rw [← hfst]; simp [hkq]
      have hz := hz1.out
      have hHz := hHh.out
      have hty := takeType_ok (exOf D gu cu w2) w1 n (ps.map Prod.fst) H a c qs _ _ (.slice sa n cs) k av fv wr HR.out.1 hlt hlen hkq (fun p hp => hok.flat _ (by rw [← hfst]; exact List.mem_map_of_mem hp)) ((hr.ext x02.out).only HR.out.2 (by omega)) (by omega) (by have := hok.each k _ hge; rwa [hts] at this)
      clear hge hz hHz
      go_wp2_with (go_at_call 54; refine hty.mono ?_; rintro _ w4 ⟨av4, fv4, rfl, T4, O4⟩)
      go_roundw
      case rel => exact ⟨k + 1, av4, fv4, hlt, by go_num, T4, HR.out.2.then O4⟩
      case measure => simp [intOf]; omega
    · have hlt' : ¬ (k : Int) < (n : Int) := by omega
      obtain rfl : k = n := by omega
      obtain ⟨T, O⟩ := HR.out
      have hz := hz1.out
      have hHz := hHh.out
      have g1 := O.cell d1 (by show ¬ _ ≤ _; simp; omega)
      have hMU := MUh.out
      have hblk : ∀ b, b = D.gc ∨ own D.nc b ∨ b = gu → wr.heap[b]? = w2.heap[b]? := fun b hb => (T.fix b hb).2.1
      obtain ⟨ea, ec, hnc9⟩ := row_slice hMU.cnm
      have hkc : KcS (H + 3) (H + 2) D.gc D.cc gu cu (H + 1) H (.slice a k c) (.slice sa k cs) fv av D.cl ea D.cl.names.length ec (.slice none 0 0) wr := by
        refine ⟨T.mb, T.sc, fun j u hu => ?_, ?_⟩
        · have r1 := row_same hMU.cls (fun b hb => hblk b (.inl (by simpa [own, Value.ownBlock] using hb.symm)))
          have := World.ownsRow.cells r1.1 (g := D.gc) rfl j u (by rw [hnc9]; exact hu)
          rwa [Addr.add_lit, Nat.zero_add] at this
        · have r2 := row_same hMU.ups (fun b hb => hblk b (.inr (.inr (by simpa [own, Value.ownBlock] using hb.symm))))
          have := World.ownsRow.cells r2.1 (g := gu) rfl 0 (.slice none 0 0) rfl
          rwa [Addr.add_lit, Nat.zero_add] at this
      have hnm : Sl encS wr (.slice ea D.cl.names.length ec) D.cl.names := by
        have r3 : RowE 9 encS wr _ D.nc D.cl.names := row_same hMU.cnm (fun b hb => hblk b (.inr (.inl hb)))
        have := r3.sl
        rwa [hnc9] at this
      have hmc : MapAt wr (H + 1) D.cn D.cf := T.mc
      rw [hDf] at hmc
      have htc := takeClass_ok wr (H + 3) (H + 2) D.gc D.cc gu cu (H + 1) H D.cn _ (.slice a k c) (.slice sa k cs) fv av D.cl ea D.cl.names.length ec hkc hmc hnm (by rw [hDl]; exact hcw) (by rw [hDl]; exact hcp) (by rw [hDl]; exact hck)
      have e0 := cell_of_row _ _ 0 _ _ _ T.mb
      simp only [List.getElem?_toArray, List.getElem?_cons_zero] at e0
      have Th : Hid (TkS (exOf D gu cu w2) w1 k (ps.map Prod.fst) H a c qs (tcnt (ps.map Prod.fst) k) (tmap (ps.map Prod.fst) k) (.slice sa k cs) k k av fv wr) := T
      have Oh : Hid (Only (fun b => H + 2 ≤ b) w2 wr) := O
      clear T O hz hHz d0 d1 hT0h hkc hnm hmc hblk hMU
      go_wp2
      refine wp_loop_rounds 2 ?_
      rw [rounds_succ]
      go_wp2_with (go_at_call 55; refine htc.mono ?_; rintro _ w4 ⟨rfl, O4, gp, cp, hs4⟩)
      have T := Th.out
      have hgt := T.gt
      have f0 := O4.cell e0 (by show ¬ H + 3 = H + 2; omega)
      have s2 := cell_of_row _ _ 2 _ _ _ hs4
      have s4 := cell_of_row _ _ 4 _ _ _ hs4
      simp only [List.getElem?_toArray, List.getElem?_cons_zero, List.getElem?_cons_succ] at s2 s4
      have hq : qs.take k = qs := List.take_of_length_le (by rw [T.len]; exact Nat.le_refl _)
      have hful := T.ful
      rw [hq] at hful
      have hful4 := Row.kept hful O4 (fun g hg => by omega)
      have hmt4 := T.mt.only O4 (by omega)
      have hown4 : ∀ p ∈ qs, RowE 9 encS w4 (fun b => w1.heap.size < b ∧ b < H) p.2 p.1.names := fun p hp => Row.kept (T.own p hp) O4 (fun g hg => by omega)
      have htl := tellsC_ok w4 (H + 3) (H + 2) H _ k _ qs (ps.map Prod.fst) _ fv T.len hfst f0 s2 s4 hmt4 hful4 (by have := hok.tells; rwa [hts] at this)
      have K1 : Hid (Row w4 (fun b => H + 4 ≤ b) 99 9 fv k (flat qs)) := hful4
      have K2 : Hid (MapAt w4 H (tcnt (ps.map Prod.fst) k) (tmap (ps.map Prod.fst) k)) := hmt4
      have K3 : Hid _ := hown4
      have K4 : Hid (w4.cell? ⟨H + 2, 2, none⟩ = some (.map (some H)) ∧ w4.cell? ⟨H + 2, 4, none⟩ = some fv) := ⟨s2, s4⟩
      have K5 : Hid (Ext w w4) := (x02.out.then Oh.out (fun b hb => by have := x1h.out.size; omega)).then O4 (fun b hb => by have := x1h.out.size; omega)
      clear T hful hful4 hmt4 hown4 s2 s4 hq O4 e0
      rw [rounds_succ]
      go_wp2_with (go_at_call 56; refine htl.mono ?_; rintro _ w5 ⟨rfl, x5⟩; have e5 := x5.cell f0)
      go_ret3
      refine ⟨H + 2, qs, rfl, ⟨⟨H, tcnt (ps.map Prod.fst) k, fv, x5.cell K4.out.1, ?_, x5.cell K4.out.2, (Row.wide (K1.out.ext x5) (fun _ _ => trivial))⟩, hfst, fun q hq => (RowE.ext (K3.out q hq) x5).sl⟩, K5.out.trans x5⟩
      rw [hts]
      exact K2.out.ext x5
end Go.Proofs.YthifcfdbifhanaaGreatDoor
