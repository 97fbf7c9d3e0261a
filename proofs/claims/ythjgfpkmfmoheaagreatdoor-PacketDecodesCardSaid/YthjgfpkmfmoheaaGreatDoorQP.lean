/-
 The document's own reader of packets: a part with pieces.
-/
import Derived.Test.YthjgfpkmfmoheaaGreatDoorQE
import Derived.Test.YthjgfpkmfmoheaaGreatDoorQS
import Derived.Test.YthjgfpkmfmoheaaGreatDoorQI
namespace Go.Proofs.YthjgfpkmfmoheaaGreatDoor
open Go.RowKit Go.Shelf

theorem part_early {l : List UInt8} {x : Ix} {O0 O1 : Rs Nat} {q1 : Rs (List UInt8 × Nat)} {q : Nat × Int} (h1 : q1 = textO l x 4 O0) (e1 : O1 = bindR q1 fun r => .ok r.2) (h2 : takeO l x 48 O1 = .error q) : prtO l x O0 = .error q := by
 unfold prtO
 rw [← h1]
 cases q1 with
 | error e => subst e1; cases h2; rfl
 | ok d => subst e1; simp only [bindR] at h2 ⊢; rw [h2]

theorem str_nil {s : List UInt8} : (str s).toList = [] ↔ s = [] := by rw [toList_byt, byt_str]
theorem part_keep7 {S : Nat → Prop} {w : World} {Q : Rs OwnF} {OB : Rs Nat} {q1 q3 q5 : Rs (List UInt8 × Nat)} {QM : Rs (List ByteArray × Nat)} {acc : List ByteArray} {e5 : ByteArray} (h : (∃ e, OB = .error e ∧ Q = .error e) ∨ (∃ k d a b c, OB = .ok k ∧ q1 = .ok d ∧ q3 = .ok a ∧ QM = .ok b ∧ q5 = .ok c ∧ Q = .ok (partO d.1 (a.1, b.1, c.1)))) (hacc : ∀ b, QM = .ok b → b.1 = acc) (he : ∀ c, q5 = .ok c → e5 = str c.1) (h1 : (textS q3).toList = []) (h2 : acc = []) (h3 : e5.toList = []) (hz : (textS q1).size ≤ 281474976710656) (a : OwnF) (ha : Q = .ok a) : FKeep S w ⟨7, none, 0, 0, (textS q1), ⟨#[]⟩, ⟨#[]⟩, none, 0, 0, ⟨#[]⟩, ⟨#[]⟩, false⟩ a .nil := by
 rcases h with ⟨e, g1, g2⟩ | ⟨k, d, a', b, c, -, g2, g3, g4, g5, g6⟩
 · rw [g2] at ha; cases ha
 · rw [g6] at ha
   simp only [Except.ok.injEq] at ha
   subst ha
   have hb := hacc b g4
   have hc := he c g5
   subst hc
   rw [g3] at h1
   rw [g2] at hz ⊢
   have ka : a'.1 = [] := str_nil.1 h1
   have kc : c.1 = [] := str_nil.1 h3
   unfold partO
   rw [if_pos ⟨ka, hb.trans h2, kc⟩]
   exact keep_text S w (str d.1) hz
theorem part_keep4 {S : Nat → Prop} {w : World} {H : Nat} {Q : Rs OwnF} {OB : Rs Nat} {q1 q3 q5 : Rs (List UInt8 × Nat)} {QM : Rs (List ByteArray × Nat)} {acc : List ByteArray} {e5 : ByteArray} {ma : Option Addr} {mn mc : Nat} (h : (∃ e, OB = .error e ∧ Q = .error e) ∨ (∃ k d a b c, OB = .ok k ∧ q1 = .ok d ∧ q3 = .ok a ∧ QM = .ok b ∧ q5 = .ok c ∧ Q = .ok (partO d.1 (a.1, b.1, c.1)))) (hacc : ∀ b, QM = .ok b → b.1 = acc) (he : ∀ c, q5 = .ok c → e5 = str c.1) (hn : ¬ ((textS q3).toList = [] ∧ acc = [] ∧ e5.toList = [])) (hz1 : (textS q1).size ≤ 281474976710656) (hz3 : (textS q3).size ≤ 281474976710656) (hz5 : e5.size ≤ 281474976710656) (hs : sized acc) (row : RowS w (fun g => H ≤ g) (.slice ma mn mc) acc) (hS : ∀ g, H ≤ g → g < w.heap.size → S g) (a : OwnF) (ha : Q = .ok a) : FKeep S w ⟨4, none, 0, 0, (textS q1), ⟨#[]⟩, (textS q3), ma, mn, mc, e5, ⟨#[]⟩, false⟩ a .nil := by
 rcases h with ⟨e, g1, g2⟩ | ⟨k, d, a', b, c, -, g2, g3, g4, g5, g6⟩
 · rw [g2] at ha; cases ha
 · rw [g6] at ha
   simp only [Except.ok.injEq] at ha
   subst ha
   have hb := hacc b g4
   have hc := he c g5
   subst hc
   rw [g3] at hn hz3 ⊢
   rw [g2] at hz1 ⊢
   unfold partO
   rw [if_neg (fun ⟨k1, k2, k3⟩ => hn ⟨str_nil.2 k1, hb.symm.trans k2, str_nil.2 k3⟩)]
   intro W hW
   have hrow : RowS W (fun g => H ≤ g) (.slice ma mn mc) acc := Row.alike row (fun g hg => by
     rcases row.1.2 with ⟨e, -⟩ | ⟨g', c', cur, e, h2, h3, -⟩
     · cases e; simp [own, Value.ownBlock] at hg
     · refine hW g (hS g (row.2 g hg) ?_)
       cases e
       have : g = g' := by simpa [own, Value.ownBlock, eq_comm] using hg
       subst this
       exact (Array.getElem?_eq_some_iff.1 h3).1)
   refine ⟨⟨rfl, rfl, rfl, rfl, rfl, rfl, rfl, ⟨hz1, Nat.zero_le _, hz3, hz5, Nat.zero_le _⟩, ?_, ?_, by show (-128 : Int) ≤ 4 ∧ (4 : Int) ≤ 127; decide⟩, fkids_nil _ _ _ _ _ _ _ _ _ _ _⟩
   · show SSl W (.slice ma mn mc) b.1
     rw [hb]; exact hrow.ssl
   · show sized b.1
     rw [hb]; exact hs
theorem part_rf {w : World} {R : Nat} {v : Value} {n : Nat} {Q : Rs OwnF} {OB : Rs Nat} {q1 q3 q5 : Rs (List UInt8 × Nat)} {QM : Rs (List ByteArray × Nat)} (h : (∃ e, OB = .error e ∧ Q = .error e) ∨ (∃ k d a b c, OB = .ok k ∧ q1 = .ok d ∧ q3 = .ok a ∧ QM = .ok b ∧ q5 = .ok c ∧ Q = .ok (partO d.1 (a.1, b.1, c.1)))) (hr : RfQ w R v n OB) : RfQ w R v n Q := by
 rcases h with ⟨e, g1, g2⟩ | ⟨k, d, a, b, c, g1, -, -, -, -, g6⟩
 · rw [g2]; rw [g1] at hr; exact hr
 · rw [g6]; rw [g1] at hr; exact hr

set_option maxRecDepth 100000 in
set_option maxHeartbeats 8000000 in
theorem dPart_any (w : World) (B R : Nat) (v : Value) (l : List UInt8) (n : Nat) (x : Ix) (m : Nat) (hc : DC w B R v l x) (h : DO w B R v l n x (.ok m) id) (hp : 0 < l.length) :
   Calls Tryz.prog 62 #[.pointer (some ⟨R, 0, none⟩), .pointer (some ⟨B, 0, none⟩)] w fun e w' => ∃ f : F9, e = .returned (.agg f.arr) ∧ RfQ w' R v n (partR l (x.to m)) ∧ (∀ a, partR l (x.to m) = .ok a → FKeep (news w w') w' f a .nil) ∧ Only (fun g => g = R ∨ g = B) w w' := by
 have hPa : Hid (partR l (x.to m) = prtO l x (.ok m)) := (prtO_is l x m).symm
 generalize partR l (x.to m) = Q at hPa ⊢
 have hB := h.2.1.lt
 have hR := (Array.getElem?_eq_some_iff.1 h.1).1
 have hBR := hc.ne
 have hsl := hc.slt hp
 obtain ⟨O0, hO0⟩ : ∃ O : Rs Nat, Hid (O = .ok m) := ⟨_, rfl⟩
 rw [← hO0.out] at h
 have z0 := fl_new w
 have x0 := (Ext.refl w).alloc (.cells #[.int .i8 0, .slice none 0 0, .string ⟨#[]⟩, .string ⟨#[]⟩, .string ⟨#[]⟩, .slice none 0 0, .string ⟨#[]⟩, .string ⟨#[]⟩, .bool false] 27)
 have hs0 : Hid ((w.alloc (.cells #[.int .i8 0, .slice none 0 0, .string ⟨#[]⟩, .string ⟨#[]⟩, .string ⟨#[]⟩, .slice none 0 0, .string ⟨#[]⟩, .string ⟨#[]⟩, .bool false] 27)).heap.size = w.heap.size + 1) := World.size_alloc _ _
 go_enter Tryz.func62, Tryz.ntmps62
 go_upto_region 1 with fail
 generalize w.alloc _ = w0 at z0 x0 hs0 ⊢
 obtain ⟨Z, hZ⟩ : ∃ Z, Hid (Z = w.heap.size) := ⟨_, rfl⟩
 rw [← hZ.out] at z0 ⊢
 have hT := dText_any w0 B R v l n x O0 4 (hc.ext x0) (h.only (S := fun _ => False) x0.only id id)
 have hzq1 := textO_size l x 4 O0
 generalize hq : textO l x 4 O0 = q1 at hT hzq1
 have hq1 : Hid (q1 = textO l x 4 O0) := hq.symm
 have hzZ := Array.getElem?_eq_some_iff.1 z0
 clear hq h
 go_wp2_with fail
 go_at_call 61
 refine hT.mono ?_
 rintro _ w1 ⟨rfl, hd1, o1⟩
 have hc1 := (hc.ext x0).next o1
 have z1 := z0.only o1 (by rw [hZ.out]; omega)
 have on1 : Only (fun g => g = R ∨ g = B) w w1 := x0.only.then o1
 have hZ1 : Z < w1.heap.size := z1.lt
 clear hT o1 z0 hc x0 hs0 hzZ
 have f2 : FlT (w1.alloc (.cells #[.int .i8 4, .slice none 0 0, .string (textS q1), .string ⟨#[]⟩, .string ⟨#[]⟩, .slice none 0 0, .string ⟨#[]⟩, .string ⟨#[]⟩, .bool false] 27)) w1.heap.size ⟨4, none, 0, 0, (textS q1), ⟨#[]⟩, ⟨#[]⟩, none, 0, 0, ⟨#[]⟩, ⟨#[]⟩, false⟩ := heap_alloc_new _ _
 have x2 := (Ext.refl w1).alloc (.cells #[.int .i8 4, .slice none 0 0, .string (textS q1), .string ⟨#[]⟩, .string ⟨#[]⟩, .slice none 0 0, .string ⟨#[]⟩, .string ⟨#[]⟩, .bool false] 27)
 go_upto_region 2 with fail
 generalize w1.alloc _ = w2 at f2 x2 ⊢
 obtain ⟨F, hF⟩ : ∃ F, Hid (F = w1.heap.size) := ⟨_, rfl⟩
 rw [← hF.out] at f2 ⊢
 have hFw : w.heap.size ≤ F := by rw [hF.out]; exact on1.size
 have hZF : Z ≠ F := by rw [hF.out]; omega
 have hc2 := hc1.ext x2
 have z2 := z1.ext x2
 have on2 := on1.ext x2
 have d2 : DO w2 B R v l n x (bindR q1 fun r => .ok r.2) id := (DO.map (f := fun r : List UInt8 × Nat => r.2) (r := id) hd1 (fun _ => rfl)).only (S := fun _ => False) x2.only id id
 obtain ⟨O1, hO1⟩ : ∃ O, Hid (O = bindR q1 fun r => .ok r.2) := ⟨_, rfl⟩
 rw [← hO1.out] at d2
 clear hd1 hc1 z1 on1 x2
 have hTk := dTake_any w2 B R v l n x O1 48 hc2 d2
 have hEarly := fun q => part_early (l := l) (x := x) (O0 := O0) (O1 := O1) (q1 := q1) (q := q) hq1.out hO1.out
 have hEh : Hid (∀ q, takeO l x 48 O1 = .error q → prtO l x O0 = .error q) := hEarly
 have hTok : Hid (∀ y, takeO l x 48 O1 = .ok y → y.Ok l ∧ bAt l y.at_ = 48 ∧ y.next = y.t.fro) := fun y => takeO_ok
 have hTwin : Hid (∀ y, takeO l x 48 O1 = .ok y → y.t.til - y.t.fro ≤ 1048576) := by
   intro y hy
   have hO := d2
   cases O1 with
   | error q => cases hy
   | ok k =>
     obtain ⟨⟨y1, y2, y3, y4⟩, -, -, g4, -, g6⟩ := takeR_ok (show takeR l (x.to k) 48 = .ok y from hy)
     obtain ⟨-, -, ⟨b1, b2, b3, b4⟩⟩ := hO
     simp only [Ix.to, id] at g4 g6 b1 b2 b3 b4
     have := hc2.win
     omega
 clear hEarly d2
 generalize ht2 : takeO l x 48 O1 = t2 at hTk hEh hTok hTwin
 have ht2h : Hid (takeO l x 48 O1 = t2) := ht2
 clear ht2
 go_wp2_with fail
 go_at_call 84
 refine hTk.mono ?_
 rintro _ w3 ⟨hk, hd3, o3⟩
 have hc3 := hc2.next o3
 have f3 := f2.only o3 (by omega)
 have z3 := z2.only o3 (by rw [hZ.out]; omega)
 have on3 := on2.then o3
 clear hTk o3 f2 z2 on2 hc2
 cases t2 with
 | error q =>
   obtain ⟨t, k, rfl⟩ := hk
   obtain ⟨cls, cons, num, fro, tl⟩ := t
   have hQ : Hid (Q = .error q) := by show _ = _; rw [hPa.out, ← hO0.out]; exact hEh.out q rfl
   obtain ⟨b4, x4⟩ := jbox w3 ⟨cls, cons, num, fro, tl⟩
   simp only [jV] at b4 x4 ⊢
   go_upto_region 3 with fail
   generalize w3.alloc _ = w4 at b4 x4 ⊢
   have f4 := f3.ext x4
   have z4 := z3.ext x4
   have on4 := on3.ext x4
   obtain ⟨h0, h1, m1, h2⟩ := hd3
   have h1 := h1.ext x4
   obtain ⟨c0, c1, c2, c3, c4, c5, c6, c7, c8, fz⟩ := f4.cells
   simp only at c0 c1 c2 c3 c4 c5 c6 c7 c8
   obtain ⟨d0, d1, d2, d3, d4, d5, d6, d7, d8, dz⟩ := z4.cells
   have dz0 := dz 0
   have dz1 := dz 1
   have dz2 := dz 2
   have dz3 := dz 3
   have dz4 := dz 4
   have dz5 := dz 5
   have dz6 := dz 6
   have dz7 := dz 7
   have dz8 := dz 8
   have f10 := z4.put ⟨4, none, 0, 0, (textS q1), ⟨#[]⟩, ⟨#[]⟩, none, 0, 0, ⟨#[]⟩, ⟨#[]⟩, false⟩
   have o10 := put_only w4 Z ⟨4, none, 0, 0, (textS q1), ⟨#[]⟩, ⟨#[]⟩, none, 0, 0, ⟨#[]⟩, ⟨#[]⟩, false⟩
   have o11 := on4.trans (o10.mono fun g _ hg => .inr (by rw [hg, hZ.out]; exact Nat.le_refl _))
   have hRf : Hid (RfQ (putF w4 Z ⟨4, none, 0, 0, (textS q1), ⟨#[]⟩, ⟨#[]⟩, none, 0, 0, ⟨#[]⟩, ⟨#[]⟩, false⟩) R v n Q) := by
     show RfQ _ R v n Q
     rw [hQ.out]
     exact ⟨h0, h1.only o10 (by rw [hZ.out]; omega)⟩
   have hend : ∀ tm : Array Value, tm.getD 4 undef = .pointer (some ⟨Z, 0, none⟩) → bodyPost Tryz.prog Tryz.f62 (fun e w' => ∃ f : F9, e = .returned (.agg f.arr) ∧ RfQ w' R v n Q ∧ (∀ a, Q = .ok a → FKeep (news w w') w' f a .nil) ∧ Only (fun g => g = R ∨ g = B) w w') .ret ⟨tm, []⟩ (putF w4 Z ⟨4, none, 0, 0, (textS q1), ⟨#[]⟩, ⟨#[]⟩, none, 0, 0, ⟨#[]⟩, ⟨#[]⟩, false⟩) := by
     intro tm htm
     refine bodyPost_ret (results_f rfl _ _ Z _ rfl htm f10) rfl ?_
     exact ⟨_, rfl, hRf.out, (fun a ha => by rw [hQ.out] at ha; cases ha), o11⟩
   have hendh : Hid _ := hend
   clear hend hRf f10 o10 o11 dz fz on4 on3 f3 z3 f4 z4 hEh hTok hTwin ht2h hq1 hO1 hO0 hPa hQ h0 h1 h2 b4 x4
   go_wp2
   exact hendh.out _ rfl
 | ok z =>
   subst hk
   obtain ⟨r3, bd3, ok3⟩ := hd3
   obtain ⟨zok, -, znx⟩ := hTok.out z rfl
   have zwin := hTwin.out z rfl
   clear hTok hTwin hEh
   obtain ⟨⟨cls, cons, num, fro, tl⟩, zat, nx⟩ := z
   simp only at bd3 ok3 znx zwin
   have znx := znx.symm
   subst znx
   obtain ⟨zo1, zo2, zo3, zo4⟩ := zok
   simp only at zo1 zo2 zo3 zo4
   obtain ⟨b4, x4⟩ := jbox w3 ⟨cls, cons, num, fro, tl⟩
   simp only [jV] at b4 x4 ⊢
   go_upto_region 3 with fail
   generalize w3.alloc _ = w4 at b4 x4 ⊢
   obtain ⟨t0, t1, t2, t3, t4⟩ := tcells b4
   clear t0 t1 t2
   obtain ⟨A, hA⟩ : ∃ A, Hid (A = w3.heap.size) := ⟨_, rfl⟩
   rw [← hA.out] at t3 t4 ⊢
   have r4 := r3.ext x4
   have bd4 := bd3.ext x4
   have f4 := f3.ext x4
   have z4 := z3.ext x4
   have on4 := on3.ext x4
   have hc4 := hc3.ext x4
   clear r3 bd3 f3 z3 on3 hc3 x4 b4
   have b5 : BdB (w4.alloc (.cells #[.pointer (some ⟨R, 0, none⟩), .int .i64 fro, .int .i64 tl, .int .i64 zat] 101)) w4.heap.size R ⟨⟨cls, cons, num, fro, tl⟩, zat, fro⟩ := heap_alloc_new _ _
   have x5 := (Ext.refl w4).alloc (.cells #[.pointer (some ⟨R, 0, none⟩), .int .i64 fro, .int .i64 tl, .int .i64 zat] 101)
   have hs5 : Hid ((w4.alloc (.cells #[.pointer (some ⟨R, 0, none⟩), .int .i64 fro, .int .i64 tl, .int .i64 zat] 101)).heap.size = w4.heap.size + 1) := World.size_alloc _ _
   go_upto_region 6 with fail
   generalize w4.alloc _ = w5 at b5 x5 hs5 ⊢
   obtain ⟨P, hP⟩ : ∃ P, Hid (P = w4.heap.size) := ⟨_, rfl⟩
   obtain ⟨H, hH⟩ : ∃ H, Hid (H = w4.heap.size + 1) := ⟨_, rfl⟩
   rw [← hP.out] at b5 ⊢
   rw [← hH.out] at hs5
   have hh : PH w B P R Z F H v := by
     have g1 := f4.lt
     have g2 := z4.lt
     have g3 := on4.size
     exact ⟨by rw [hZ.out, hH.out]; omega, by rw [hH.out]; omega, by rw [hP.out, hH.out]; omega, hZF, by rw [hP.out]; omega, by rw [hP.out]; omega, hB, hR, hBR, hsl⟩
   obtain ⟨z, hz⟩ : ∃ z : Ix, Hid (z = ⟨⟨cls, cons, num, fro, tl⟩, zat, fro⟩) := ⟨_, rfl⟩
   have hzn : Hid (needO z = if fro < tl then .ok fro else .error (90, (zat : Int))) := by
     show _ = _
     rw [hz.out]; unfold needO needR Ix.left
     simp only [decide_eq_true_eq]
     split <;> rfl
   have hz1 : Hid (z.t.til = tl ∧ z.t.fro = fro) := by rw [hz.out]; exact ⟨rfl, rfl⟩
   have dc5 : DC w5 P R v l z := by
     refine ⟨hc4.sl.ext x5, hc4.ln, by rw [hz1.out.1, hz1.out.2]; exact zwin, ?_, fun a nn c e => ⟨?_, (hc4.ap a nn c e).2⟩⟩
     · have := hh.p; have := hh.r; omega
     · have := hsl a nn c e; have := hh.p; omega
   have s5 : Hid (∀ (o : Rs Nat) (W : World), DC W P R v l z → DO W P R v l n z o id → Only (fun g => g = R ∨ g = P) w5 W → PS w W B P R Z F H v l n x z (textS q1) ⟨#[]⟩ ⟨#[]⟩ [] o id) := by
     intro o W hD hO k
     obtain ⟨p1, p2⟩ := hh.p
     have h1 := hh.r
     have h2 := hh.b
     have h3 := hh.pf
     have h4 := hh.pz
     have h5 := hh.f
     have h6 := hh.z
     refine ⟨hD, hO, ?_, ⟨none, 0, 0, (f4.ext x5).only k (by omega), row_nil _ _ _ _⟩, (z4.ext x5).only k (by omega), (on4.ext x5).trans (k.mono fun g _ hg => by rcases hg with hg | hg; exact .inl (.inl hg); exact .inr (by omega)), fun s hs => by cases hs⟩
     rw [hz1.out.1]
     exact (bd4.ext x5).only k (by omega)
   have r5 := r4.ext x5
   have hsz5 : Hid (H ≤ w5.heap.size) := by show _ ≤ _; rw [hs5.out]; exact Nat.le_refl _
   obtain ⟨e0, e1, e2, e3, ez⟩ := b5.cells
   simp only at e1 e2 e3
   have hxO : Hid ((x.to tl).Ok l) := ok3
   have hxw : Hid (x.t.til - x.t.fro ≤ 1048576 ∧ (∀ a n c, v = .slice (some a) n c → a.block ≠ B ∧ a.block ≠ R)) := ⟨hc4.win, hc4.ap⟩
   clear e0 e3 ez t3 t4 hs5 r4 bd4 f4 z4 on4 hc4 x5 ok3 zwin
   go_upto_region 6 with fail
   go_quiet (fail)
   go_upto_if 39 with fail
   generalize hw6 : w5.drewN _ = w6
   have y6 : Ext w5 w6 := hw6 ▸ (Ext.refl w5).drewN _
   have b6 := b5.ext y6
   have r6 := r5.ext y6
   have dc6 := dc5.ext y6
   have hF := dFail_any w6 R v n 0 0 90 zat r6
   clear hw6 e1 e2
   go_cut [] from 39 to 42 (fun wx => PS w wx B P R Z F H v l n x z (textS q1) ⟨#[]⟩ ⟨#[]⟩ [] (needO z) id ∧ H ≤ wx.heap.size)
   case first =>
     by_cases hlt : fro < tl
     · have hne : ((fro : Int) == (tl : Int)) = false := by simp; omega
       have hs : Hid (PS w w6 B P R Z F H v l n x z (textS q1) ⟨#[]⟩ ⟨#[]⟩ [] (needO z) id ∧ H ≤ w6.heap.size) := by
         refine ⟨?_, Nat.le_trans hsz5.out y6.size⟩
         rw [hzn.out, if_pos hlt]
         refine s5.out _ _ dc6 ⟨r6, ?_, ?_⟩ y6.only
         · rw [hz.out]; exact b6
         · rw [hz.out]; exact ⟨zo1, Nat.le_refl _, zo3, zo4⟩
       clear hF b6 r6 dc6 hlt s5 b5 r5 dc5
       go_wp2
       go_meet
       exact hs.out
     · have hne : ((fro : Int) == (tl : Int)) = true := by simp; omega
       have hnd : Hid (needO z = .error (90, (zat : Int))) := by show _ = _; rw [hzn.out, if_neg hlt]
       go_wp2_with fail
       go_at_call 57
       refine hF.mono ?_
       rintro _ w7 ⟨rfl, r7, o7⟩
       have hPR : P ≠ R := dc5.ne
       have hs : Hid (PS w w7 B P R Z F H v l n x z (textS q1) ⟨#[]⟩ ⟨#[]⟩ [] (needO z) id ∧ H ≤ w7.heap.size) := by
         refine ⟨?_, Nat.le_trans (Nat.le_trans hsz5.out y6.size) o7.size⟩
         rw [hnd.out]
         have o8 : Only (fun g => g = R ∨ g = P) w5 w7 := y6.only.then (o7.mono fun _ _ h => .inl h)
         refine s5.out _ _ (dc5.next o8) ⟨show (90 : Nat) ≠ 0 by decide, r7, fro, ?_⟩ o8
         rw [hz.out]; exact b6.only o7 hPR
       clear hF b6 r6 dc6 hlt s5 b5 r5 dc5 r7 o7
       go_wp2
       go_meet
       exact hs.out
   case rest =>
   clear b6 r6 dc6 hF y6 s5 b5 r5 dc5 w6
   obtain ⟨s6, hsz6⟩ := hcut
   obtain ⟨w6, hw⟩ : ∃ w6, w6 = wc := ⟨_, rfl⟩
   subst hw
   obtain ⟨O2, hO2⟩ : ∃ O, Hid (O = needO z) := ⟨_, rfl⟩
   rw [← hO2.out] at s6
   have hPk := dPeek_any _ P R v l n z _ s6.dc s6.dd
   go_wp2_with fail
   go_at_call 85
   refine hPk.mono ?_
   rintro _ w6a ⟨rfl, hd6, o6⟩
   have s6a := s6.step hh o6 hd6
   have hsz6a := Nat.le_trans hsz6 o6.size
   clear hPk hd6 o6 s6 hsz6
   go_upto_if 45 with fail
   go_cut [] from 45 to 48 (fun wx => ∃ q : Rs (List UInt8 × Nat), Hid (q = optO l z 128 O2) ∧ (textS q).size ≤ 281474976710656 ∧ PS w wx B P R Z F H v l n x z (textS q1) (textS q) ⟨#[]⟩ [] q (·.2) ∧ H ≤ wx.heap.size)
   case first =>
     by_cases hk : peekK l z O2 = (128 : Nat)
     · have hy := opt_yes (show 128 % 64 < 32 by decide) hk
       have hT := dText_any _ P R v l n z _ 128 s6a.dc s6a.dd
       have hzz := textO_size l z 128 (peekO l z O2)
       rw [hy] at hT hzz
       have hkb : (peekK l z O2 == 128) = true := by rw [hk]; rfl
       clear hk hy
       generalize hq : optO l z 128 O2 = q at hT hzz
       have hqh : Hid (q = optO l z 128 O2) := hq.symm
       clear hq
       go_wp2_with fail
       go_at_call 61
       refine hT.mono ?_
       rintro _ w6b ⟨rfl, hd, o⟩
       have s6b := s6a.step hh o hd
       have hsz6b := Nat.le_trans hsz6a o.size
       clear hT hd o s6a
       obtain ⟨ma, mn, mc, g1, g2⟩ := s6b.fl
       obtain ⟨-, -, -, -, c4, -, -, -, -, fz⟩ := g1.cells
       simp only at c4
       have fz1 := fz 4
       have s7h : Hid (PS w (w6b.setCell ⟨F, 4, none⟩ (.string (textS q))) B P R Z F H v l n x z (textS q1) (textS q) ⟨#[]⟩ [] q (·.2)) := s6b.store hh (g1.set4 (textS q)) g2 s6b.sz
       clear fz g1 g2 s6b
       go_wp2
       go_meet
       exact ⟨q, hqh, hzz, s7h.out, by simpa [World.setCell] using hsz6b⟩
     · have hn := opt_no (tag := 128) hk
       have hkb : (peekK l z O2 == 128) = false := by simp only [beq_eq_false_iff_ne, ne_eq]; exact hk
       clear hk
       have hD : DO w6a P R v l n z (optO l z 128 O2) (·.2) := by rw [← hn]; exact DO.map s6a.dd (fun _ => rfl)
       have he : textS (optO l z 128 O2) = ⟨#[]⟩ := by rw [← hn]; cases peekO l z O2 <;> rfl
       have s6b := s6a.to hD
       generalize hq : optO l z 128 O2 = q at hD he s6b
       have hqh : Hid (q = optO l z 128 O2) := hq.symm
       have heh : Hid (textS q = ⟨#[]⟩) := he
       clear hq hn hD s6a he
       go_wp2
       go_meet
       exact ⟨q, hqh, by rw [heh.out]; exact Nat.zero_le _, by rw [heh.out]; exact s6b, hsz6a⟩
   case rest =>
   clear s6a hsz6a
   obtain ⟨q3, hq3, hzq3, s7, hsz7⟩ := hcut
   have d7 : DO wc P R v l n z (bindR q3 fun r => .ok r.2) id := DO.map s7.dd (fun _ => rfl)
   have s7 := s7.to d7
   obtain ⟨O3, hO3⟩ : ∃ O, Hid (O = bindR q3 fun r => .ok r.2) := ⟨_, rfl⟩
   rw [← hO3.out] at s7
   clear d7
   obtain ⟨w7, hw⟩ : ∃ w7, w7 = wc := ⟨_, rfl⟩
   subst hw
   obtain ⟨QM, hQM⟩ : ∃ Q, Hid (Q = midO l z O3) := ⟨_, rfl⟩
   have hMI : Hid (MidI l z QM O3 [] (z.t.til - z.t.fro + 2)) := by
     have hd := s7.dd
     show MidI _ _ _ _ _ _
     rw [hQM.out]
     cases O3 with
     | error e => exact .inr ⟨e, rfl, rfl, by omega⟩
     | ok k =>
       obtain ⟨-, -, ⟨k1, k2, k3, k4⟩⟩ := hd
       simp only [Ix.to, id] at k2
       exact .inl ⟨k, z.t.til + 1, rfl, rfl, by omega, by omega⟩
   have hzw : z.t.til - z.t.fro ≤ 1048576 := s7.dc.win
   go_wp2_with fail
   go_loopg [10] (z.t.til - z.t.fro + 2) (fun q _ wr => ∃ (o : Rs Nat) (acc : List ByteArray), Hid (MidI l z QM o acc q) ∧ acc.length + q ≤ z.t.til - z.t.fro + 2 ∧ PS w wr B P R Z F H v l n x z (textS q1) (textS q3) ⟨#[]⟩ acc o id ∧ H ≤ wr.heap.size)
   case atStart => exact ⟨O3, [], hMI, by simp, s7, hsz7⟩
   case round =>
     obtain ⟨o, acc, hM, hln, s8, hsz8⟩ := hrel
     clear s7 hsz7 hMI
     have hPk := dPeek_any _ P R v l n z _ s8.dc s8.dd
     go_wp2_with fail
     go_at_call 85
     refine hPk.mono ?_
     rintro _ w8 ⟨rfl, hd8, o8⟩
     have s8a := s8.step hh o8 hd8
     have hsz8a := Nat.le_trans hsz8 o8.size
     clear hPk hd8 o8 s8 hsz8
     by_cases hk : peekK l z o = (129 : Nat)
     · have hkb : (peekK l z o == 129) = true := by rw [hk]; rfl
       obtain ⟨hq2, mm, hPO, hcase⟩ := mid_yes hM.out hk
       obtain ⟨gm, rfl⟩ : ∃ gm, gk = gm + 1 := ⟨gk - 1, by omega⟩
       rw [hPO] at s8a
       have hT := dText_any _ P R v l n z _ 129 s8a.dc s8a.dd
       have hzz := textO_size l z 129 (.ok mm)
       clear hk hM hPO
       rcases hcase with ⟨e, hte, hM⟩ | ⟨s, p, hte, hM⟩
       · rw [hte] at hT
         have hMh : Hid (MidI l z QM (.error e) acc gm) := hM
         clear hM hte hzz
         go_wp2_with fail
         go_at_call 61
         refine hT.mono ?_
         rintro _ w9 ⟨rfl, hd, oo⟩
         have s9 : PS w w9 B P R Z F H v l n x z (textS q1) (textS q3) ⟨#[]⟩ acc (.error e : Rs Nat) id := s8a.step hh oo hd
         have hsz9 := Nat.le_trans hsz8a oo.size
         have hem : textS (.error e : Rs (List UInt8 × Nat)) = ⟨#[]⟩ := rfl
         rw [hem]
         clear hT hd oo s8a hem
         go_wp2
         go_roundg gm
         case measure => omega
         case rel => exact ⟨.error e, acc, hMh, by omega, s9, hsz9⟩
       · rw [hte] at hT hzz
         have hem : textS (.ok (s, p) : Rs (List UInt8 × Nat)) = str s := rfl
         rw [hem] at hT hzz
         have hMh : Hid (MidI l z QM (.ok p) (if s = [] then acc else acc ++ [str s]) gm) := hM
         clear hM hte hem
         go_wp2_with fail
         go_at_call 61
         refine hT.mono ?_
         rintro _ w9 ⟨rfl, hd, oo⟩
         have s9 : PS w w9 B P R Z F H v l n x z (textS q1) (textS q3) ⟨#[]⟩ acc (.ok p : Rs Nat) id := s8a.step hh oo hd
         have hsz9 := Nat.le_trans hsz8a oo.size
         clear hT hd oo s8a hsz8a
         by_cases ht0 : s = []
         · subst ht0
           rw [if_pos rfl] at hMh
           have n0 : ((str ([] : List UInt8)).toList == []) = true := by rw [toList_byt, byt_str]; rfl
           go_wp2
           go_roundg gm
           case measure => omega
           case rel => exact ⟨.ok p, acc, hMh, by omega, s9, hsz9⟩
         · rw [if_neg ht0] at hMh
           have n0 : ((str s).toList == []) = false := by rw [toList_byt, byt_str]; simpa using ht0
           obtain ⟨ma, mn, mc, g1, g2⟩ := s9.fl
           obtain ⟨-, -, -, -, -, c5, -, -, -, fz⟩ := g1.cells
           simp only at c5
           clear ht0
           generalize str s = st at *
           go_wp2_with (at_builtin; refine Hid.out ?_)
           refine wpList_str rfl _ _ rfl _ _ _ _ _ g2 rfl _ rfl rfl ?hl ?_
           case hl => omega
           intro g cap w10 r10 o10
           obtain ⟨⟨ma2, mn2, mc2, f10⟩, s10⟩ := s9.grow hh hsz9 r10 o10 hzz
           obtain ⟨-, -, -, -, -, k5, -, -, -, kz⟩ := f10.cells
           simp only at k5
           have kz5 := kz 5
           have hsz10 : Hid (H ≤ w10.heap.size) := Nat.le_trans hsz9 o10.size
           clear c5 fz g1 g2 r10 o10 s9 f10 kz
           go_wp2
           go_roundg gm
           case measure => omega
           case rel => exact ⟨.ok p, acc ++ [st], hMh, by simp; omega, s10, by simpa [World.setCell] using hsz10.out⟩
     · have hkb : (peekK l z o == 129) = false := by simp only [beq_eq_false_iff_ne, ne_eq]; exact hk
       have hno := mid_no hM.out hk
       have hD : DO w8 P R v l n z QM (·.2) := by
         have hd := s8a.dd
         rcases hno with ⟨k, h1, h2⟩ | ⟨e, h1, h2⟩
         · rw [h1] at hd; rw [h2]; exact hd
         · rw [h1] at hd; rw [h2]; exact hd
       have hacc : Hid (∀ b, QM = .ok b → b.1 = acc) := by
         intro b hb
         rcases hno with ⟨k, h1, h2⟩ | ⟨e, h1, h2⟩
         · rw [h2] at hb; cases hb; rfl
         · rw [h2] at hb; cases hb
       have s9 := s8a.to (DO.map (f := fun r : List ByteArray × Nat => r.2) (r := id) hD (fun _ => rfl))
       obtain ⟨O4, hO4⟩ : ∃ O, Hid (O = bindR QM fun r => .ok r.2) := ⟨_, rfl⟩
       rw [← hO4.out] at s9
       clear hk hno hD s8a hM hln
       have hPk := dPeek_any _ P R v l n z _ s9.dc s9.dd
       go_wp2_with fail
       go_at_call 85
       refine hPk.mono ?_
       rintro _ w9a ⟨rfl, hd9, o9⟩
       have s9a := s9.step hh o9 hd9
       clear hPk hd9 o9 s9 hsz8a
       go_upto_if 64 with fail
       go_cut [] from 64 to 91 (fun wx => ∃ (q : Rs (List UInt8 × Nat)) (e : ByteArray), Hid (q = lastE l z O4) ∧ Hid (∀ c, q = .ok c → e = str c.1) ∧ e.size ≤ 281474976710656 ∧ PS w wx B P R Z F H v l n x z (textS q1) (textS q3) e acc q (·.2))
       case first =>
         by_cases hk : peekK l z O4 = (130 : Nat)
         · have hy := last_yes hk
           have hyh : Hid _ := hy
           have hT := dText_any _ P R v l n z _ 130 s9a.dc s9a.dd
           have hzz := textO_size l z 130 (peekO l z O4)
           have hkb : (peekK l z O4 == 130) = true := by rw [hk]; rfl
           clear hk hy
           generalize hq : textO l z 130 (peekO l z O4) = q at hT hzz hyh
           clear hq
           go_wp2_with fail
           go_at_call 61
           refine hT.mono ?_
           rintro _ w10 ⟨rfl, hd, oo⟩
           have s10 := s9a.step hh oo hd
           clear hT hd oo s9a
           obtain ⟨ma, mn, mc, g1, g2⟩ := s10.fl
           obtain ⟨-, -, -, -, -, -, c6, -, -, fz⟩ := g1.cells
           simp only at c6
           have fz1 := fz 6
           have s11 := s10.store hh (g1.set6 (textS q)) g2 s10.sz
           clear fz g1 g2 s10
           go_upto_region 16 with fail
           generalize World.setCell w10 ⟨F, 6, none⟩ _ = w11 at s11 ⊢
           clear c6 fz1
           have hOv := dOver_any _ P R v l n z _ s11.dc (DO.map (f := fun r : List UInt8 × Nat => r.2) (r := id) s11.dd (fun _ => rfl))
           go_wp2_with fail
           go_at_call 59
           refine hOv.mono ?_
           rintro _ w12 ⟨rfl, d12, o12⟩
           have s12 := s11.step hh o12 d12
           clear hOv d12 o12 s11
           have hD : DO w12 P R v l n z (lastE l z O4) (·.2) := by
             rw [hyh.out]
             have := s12.dd
             cases q with
             | error q => exact this
             | ok b =>
               unfold overO at this
               simp only [bindR] at this ⊢
               cases he : endR l (z.to b.2) with
               | error q => rw [he] at this; exact this
               | ok _ => rw [he] at this; exact this
           have he : Hid (∀ c, lastE l z O4 = .ok c → textS q = str c.1) := by
             intro c hc
             rw [hyh.out] at hc
             cases q with
             | error q => cases hc
             | ok b =>
               simp only [bindR] at hc
               cases he : endR l (z.to b.2) with
               | error q => rw [he] at hc; cases hc
               | ok _ => rw [he] at hc; simp only [Except.ok.injEq] at hc; rw [← hc]; rfl
           have s13h : Hid _ := s12.to hD
           clear s12 hD hyh
           go_wp2
           go_meet
           exact ⟨lastE l z O4, textS q, rfl, he, hzz, s13h.out⟩
         · have hkb : (peekK l z O4 == 130) = false := by simp only [beq_eq_false_iff_ne, ne_eq]; exact hk
           have hno := last_no (l := l) (x := z) (o := O4) hk
           clear hk
           cases hPO : peekO l z O4 with
           | error q =>
             rw [hPO] at s9a hno
             obtain ⟨h0, h1, m3, h2⟩ := s9a.dd
             have hnq : Hid (lastE l z O4 = .error q) := hno
             obtain ⟨c0, c1, c2, c3, cz⟩ := h1.cells
             obtain ⟨e0, e1, e2, e3, ez⟩ := h2.cells
             have hb : ((q.1 : Int) == 0) = false := by simp only [beq_eq_false_iff_ne, ne_eq]; omega
             have s4 : PS w w9a B P R Z F H v l n x z (textS q1) (textS q3) ⟨#[]⟩ acc (.error q : Rs (List UInt8 × Nat)) (·.2) := s9a.to s9a.dd
             have s4h : Hid _ := s4
             clear h0 c0 c1 c3 cz e0 e3 ez hPO s9a h1 h2 s4 hno
             go_wp2_with fail
             go_quiet (fail)
             go_wp2
             go_meet
             exact ⟨.error q, ⟨#[]⟩, hnq.out.symm, (fun b hb => by cases hb), Nat.zero_le _, s4h.out.ext ((Ext.refl _).drewN _)⟩
           | ok m3 =>
             rw [hPO] at s9a hno
             obtain ⟨h1, h2, h3⟩ := s9a.dd
             obtain ⟨c0, c1, c2, c3, cz⟩ := h1.cells
             obtain ⟨e0, e1, e2, e3, ez⟩ := h2.cells
             simp only [Ix.to, id] at e1 e2
             obtain ⟨p1, p2, p3, p4⟩ := h3
             simp only [Ix.to, id] at p1 p2 p3 p4
             simp only at hno
             by_cases hlt : m3 < z.t.til
             · rw [if_pos hlt] at hno
               have hnq : Hid (lastE l z O4 = .error (20, m3)) := hno
               have hne : ((m3 : Int) != (z.t.til : Int)) = true := by simp; omega
               have s4h : Hid _ := s9a
               have hF := fun W (y : Ext w9a W) => dFail_any W R v n 0 0 20 m3 (h1.ext y)
               have hPR := s9a.dc.ne
               clear c0 c1 c3 cz e0 e3 ez hPO hno p1 p2 p3 p4 hlt s9a h1 h2
               go_wp2_with fail
               go_quiet (fail)
               go_upto_region 18 with fail
               generalize hw1 : w9a.drewN _ = w10
               have y4 : Ext w9a w10 := hw1 ▸ (Ext.refl w9a).drewN _
               have e1 := y4.cell e1
               clear hw1
               go_wp2_with fail
               go_at_call 57
               refine (hF _ y4).mono ?_
               rintro _ w11 ⟨rfl, r5, o5⟩
               go_wp2
               go_meet
               have s5 := (s4h.out.ext y4).step (o' := (.error (20, (m3 : Int)) : Rs (List UInt8 × Nat))) (p' := (·.2)) hh (o5.mono fun _ _ h => .inl h) ⟨show (20 : Nat) ≠ 0 by decide, r5, m3, (s4h.out.dd.2.1.ext y4).only o5 hPR⟩
               exact ⟨_, ⟨#[]⟩, hnq.out.symm, (fun b hb => by cases hb), Nat.zero_le _, s5⟩
             · rw [if_neg hlt] at hno
               have hnq : Hid (lastE l z O4 = .ok ([], m3)) := hno
               have hne : ((m3 : Int) != (z.t.til : Int)) = false := by simp; omega
               have s4 : PS w w9a B P R Z F H v l n x z (textS q1) (textS q3) ⟨#[]⟩ acc (.ok ([], m3) : Rs (List UInt8 × Nat)) (·.2) := s9a.to s9a.dd
               have s4h : Hid _ := s4
               clear c0 c1 c3 cz e0 e3 ez hPO hno p1 p2 p3 p4 hlt s9a h1 h2 s4
               go_wp2_with fail
               go_quiet (fail)
               go_wp2
               go_meet
               exact ⟨_, ⟨#[]⟩, hnq.out.symm, (fun b hb => by cases hb; rfl), Nat.zero_le _, s4h.out.ext ((Ext.refl _).drewN _)⟩
       case rest =>
       clear s9a
       obtain ⟨q5, e5, hq5, he5, hze5, s10⟩ := hcut
       obtain ⟨w10, hw⟩ : ∃ w10, w10 = wc := ⟨_, rfl⟩
       subst hw
       have dcB : DC w10 B R v l x := ⟨s10.dc.sl, s10.dc.ln, hxw.out.1, hBR, hxw.out.2⟩
       have dB : DO w10 B R v l n x (bindR q5 fun _ => .ok z.t.til) id := by
         have hd := s10.dd
         cases q5 with
         | error q => exact ⟨hd.1, hd.2.1, _, s10.bb⟩
         | ok c => exact ⟨hd.1, s10.bb, by show (x.to z.t.til).Ok l; rw [hz1.out.1]; exact hxO.out⟩
       have hOv := dOver_any _ B R v l n x _ dcB dB
       have hst := part_steps hq1.out hO1.out (by rw [ht2h.out, ← hz.out]) (hq3.out.trans (by rw [hO2.out])) hO3.out hQM.out hO4.out hq5.out rfl
       have hsth : Hid _ := hst
       clear hst dB dcB
       generalize overO l x (bindR q5 fun _ => .ok z.t.til) = OB at hOv hsth
       go_wp2_with fail
       go_at_call 59
       refine hOv.mono ?_
       rintro _ w11 ⟨rfl, d11, o11⟩
       obtain ⟨ma, mn, mc, g1, g2⟩ := s10.fl
       have hhf := hh.f
       have hhz := hh.z
       have hhb := hh.b
       have hhr := hh.r
       have f11 := g1.only o11 (by omega)
       have rw11 := Row.kept g2 o11 (fun g hg hx => by omega)
       have z11 := s10.zl.only o11 (by omega)
       have on11 := s10.on.then o11
       have hsz := s10.sz
       clear hOv o11 g1 g2 s10
       have hsQ : Hid ((∃ e, OB = .error e ∧ Q = .error e) ∨ (∃ k d a b c, OB = .ok k ∧ q1 = .ok d ∧ q3 = .ok a ∧ QM = .ok b ∧ q5 = .ok c ∧ Q = .ok (partO d.1 (a.1, b.1, c.1)))) := by
         have := hsth.out
         show _ ∨ _
         rw [hPa.out, ← hO0.out]
         exact this
       obtain ⟨hmn, hmc1, hmc2⟩ := (RowS.ssl rw11).len
       have hmnh : Hid (mn = acc.length) := hmn
       obtain ⟨bE, hbE⟩ : ∃ b, Hid (b = decide ((textS q3).toList = [] ∧ acc = [] ∧ e5.toList = [])) := ⟨_, rfl⟩
       obtain ⟨-, -, -, -, c4, c5, c6, -, -, -⟩ := f11.cells
       simp only at c4 c5 c6
       have hhzf := hh.zf
       clear hmn hsth hPa hO0 hq1 hO1 hO2 hO3 hO4 hQM hq3 hq5 ht2h hz hzn hz1 hxO hxw hsz5
       go_upto_region 20 with fail
       go_cut [107] from 94 to 106 (fun t wx => t = .bool bE ∧ wx = w11)
       case first =>
         by_cases g1 : (textS q3).toList = []
         · by_cases g2 : acc = []
           · have hm0 : mn = 0 := by rw [hmnh.out, g2]; rfl
             by_cases g3 : e5.toList = []
             · have hbt : bE = true := by rw [hbE.out]; exact decide_eq_true ⟨g1, g2, g3⟩
               subst hbt
               have n1 : ((textS q3).toList == []) = true := by rw [g1]; rfl
               have n3 : (e5.toList == []) = true := by rw [g3]; rfl
               have n2 : ((mn : Int) == 0) = true := by rw [hm0]; rfl
               clear g1 g2 g3 hm0
               go_wp2
               go_meet
               exact ⟨rfl, rfl⟩
             · have hbt : bE = false := by rw [hbE.out]; exact decide_eq_false (fun h => g3 h.2.2)
               subst hbt
               have n1 : ((textS q3).toList == []) = true := by rw [g1]; rfl
               have n3 : (e5.toList == []) = false := by simpa using g3
               have n2 : ((mn : Int) == 0) = true := by rw [hm0]; rfl
               clear g1 g2 g3 hm0
               go_wp2
               go_meet
               exact ⟨rfl, rfl⟩
           · have hbt : bE = false := by rw [hbE.out]; exact decide_eq_false (fun h => g2 h.2.1)
             subst hbt
             have n1 : ((textS q3).toList == []) = true := by rw [g1]; rfl
             have n2 : ((mn : Int) == 0) = false := by
               have : 0 < acc.length := List.length_pos_iff.2 g2
               have := hmnh.out
               simp only [beq_eq_false_iff_ne, ne_eq]; omega
             clear g1 g2
             go_wp2
             go_meet
             exact ⟨rfl, rfl⟩
         · have hbt : bE = false := by rw [hbE.out]; exact decide_eq_false (fun h => g1 h.1)
           subst hbt
           have n1 : ((textS q3).toList == []) = false := by simpa using g1
           clear g1
           go_wp2
           go_meet
           exact ⟨rfl, rfl⟩
       case rest =>
       obtain ⟨rfl, rfl⟩ := hcut
       clear c4 c5 c6
       cases bE with
       | false =>
         have hn : ¬ ((textS q3).toList = [] ∧ acc = [] ∧ e5.toList = []) := of_decide_eq_false hbE.out.symm
         have fE := f11
         have zE := z11
         have onE := on11
         have dE := d11
         have hnh : Hid (¬ ((textS q3).toList = [] ∧ acc = [] ∧ e5.toList = [])) := hn
         have rowE := Row.kept rw11 (put_only wc Z ⟨4, none, 0, 0, (textS q1), ⟨#[]⟩, (textS q3), ma, mn, mc, e5, ⟨#[]⟩, false⟩) (fun g hg hx => by omega)
         have hsE := (put_only wc Z ⟨4, none, 0, 0, (textS q1), ⟨#[]⟩, (textS q3), ma, mn, mc, e5, ⟨#[]⟩, false⟩).size
         clear hn
         obtain ⟨k0, k1, k2, k3, k4, k5, k6, k7, k8, fz⟩ := fE.cells
         simp only at k0 k1 k2 k3 k4 k5 k6 k7 k8
         obtain ⟨j0, j1, j2, j3, j4, j5, j6, j7, j8, dz⟩ := zE.cells
         have dz0 := dz 0
         have dz1 := dz 1
         have dz2 := dz 2
         have dz3 := dz 3
         have dz4 := dz 4
         have dz5 := dz 5
         have dz6 := dz 6
         have dz7 := dz 7
         have dz8 := dz 8
         have f20 := zE.put ⟨4, none, 0, 0, (textS q1), ⟨#[]⟩, (textS q3), ma, mn, mc, e5, ⟨#[]⟩, false⟩
         have o20 := put_only wc Z ⟨4, none, 0, 0, (textS q1), ⟨#[]⟩, (textS q3), ma, mn, mc, e5, ⟨#[]⟩, false⟩
         have o21 := onE.trans (o20.mono fun g _ hg => .inr (by omega))
         have hRf : Hid (RfQ (putF wc Z ⟨4, none, 0, 0, (textS q1), ⟨#[]⟩, (textS q3), ma, mn, mc, e5, ⟨#[]⟩, false⟩) R v n Q) := part_rf hsQ.out (dE.only o20 (by omega) (by omega)).rf
         have hKp : Hid (∀ a, Q = .ok a → FKeep (news w (putF wc Z ⟨4, none, 0, 0, (textS q1), ⟨#[]⟩, (textS q3), ma, mn, mc, e5, ⟨#[]⟩, false⟩)) (putF wc Z ⟨4, none, 0, 0, (textS q1), ⟨#[]⟩, (textS q3), ma, mn, mc, e5, ⟨#[]⟩, false⟩) ⟨4, none, 0, 0, (textS q1), ⟨#[]⟩, (textS q3), ma, mn, mc, e5, ⟨#[]⟩, false⟩ a .nil) := by
           intro a ha
           exact part_keep4 hsQ.out hacc.out he5.out hnh.out hzq1 hzq3 hze5 hsz rowE (fun g h1 h2 => ⟨by omega, h2⟩) a ha
         have hend : ∀ tm : Array Value, tm.getD 4 undef = .pointer (some ⟨Z, 0, none⟩) → bodyPost Tryz.prog Tryz.f62 (fun e w' => ∃ f : F9, e = .returned (.agg f.arr) ∧ RfQ w' R v n Q ∧ (∀ a, Q = .ok a → FKeep (news w w') w' f a .nil) ∧ Only (fun g => g = R ∨ g = B) w w') .ret ⟨tm, []⟩ (putF wc Z ⟨4, none, 0, 0, (textS q1), ⟨#[]⟩, (textS q3), ma, mn, mc, e5, ⟨#[]⟩, false⟩) := by
           intro tm htm
           refine bodyPost_ret (results_f rfl _ _ Z _ rfl htm f20) rfl ?_
           exact ⟨_, rfl, hRf.out, hKp.out, o21⟩
         have hendh : Hid _ := hend
         clear hend hRf hKp f20 o20 o21 dz fz
         go_wp2
         exact hendh.out _ rfl
       | true =>
         obtain ⟨g1, g2, g3⟩ := of_decide_eq_true hbE.out.symm
         have gh : Hid ((textS q3).toList = [] ∧ acc = [] ∧ e5.toList = []) := ⟨g1, g2, g3⟩
         clear g1 g2 g3
         obtain ⟨k0, k1, k2, k3, k4, k5, k6, k7, k8, fz⟩ := f11.cells
         simp only at k0 k1 k2 k3 k4 k5 k6 k7 k8
         have fz0 := fz 0
         have fz1 := fz 1
         have fz2 := fz 2
         have fz3 := fz 3
         have fz4 := fz 4
         have fz5 := fz 5
         have fz6 := fz 6
         have fz7 := fz 7
         have fz8 := fz 8
         have fE := f11.put ⟨7, none, 0, 0, (textS q1), ⟨#[]⟩, ⟨#[]⟩, none, 0, 0, ⟨#[]⟩, ⟨#[]⟩, false⟩
         have oE := put_only wc F ⟨7, none, 0, 0, (textS q1), ⟨#[]⟩, ⟨#[]⟩, none, 0, 0, ⟨#[]⟩, ⟨#[]⟩, false⟩
         have zE := z11.only oE hhzf
         have onE := on11.trans (oE.mono fun g _ hg => .inr (by omega))
         have dE := d11.only oE (by omega) (by omega)
         clear fz
         go_upto_region 22 with fail
         obtain ⟨wE, hwE⟩ : ∃ wE, wE = (((((((((wc.setCell ⟨F, 0, none⟩ (.int .i8 7)).setCell ⟨F, 1, none⟩ (.slice none 0 0)).setCell ⟨F, 2, none⟩ (.string (textS q1))).setCell ⟨F, 3, none⟩ (.string ⟨#[]⟩)).setCell ⟨F, 4, none⟩ (.string ⟨#[]⟩)).setCell ⟨F, 5, none⟩ (.slice none 0 0)).setCell ⟨F, 6, none⟩ (.string ⟨#[]⟩)).setCell ⟨F, 7, none⟩ (.string ⟨#[]⟩)).setCell ⟨F, 8, none⟩ (.bool false)) := ⟨_, rfl⟩
         have fE : FlT wE F ⟨7, none, 0, 0, (textS q1), ⟨#[]⟩, ⟨#[]⟩, none, 0, 0, ⟨#[]⟩, ⟨#[]⟩, false⟩ := by rw [hwE]; exact fE
         have zE : FlT wE Z F9.zero := by rw [hwE]; exact zE
         have onE : Only (fun g => g = R ∨ g = B) w wE := by rw [hwE]; exact onE
         have dE : DO wE B R v l n x OB id := by rw [hwE]; exact dE
         rw [← hwE]
         clear hwE
         clear k0 k1 k2 k3 k4 k5 k6 k7 k8 fz0 fz1 fz2 fz3 fz4 fz5 fz6 fz7 fz8 oE
         obtain ⟨k0, k1, k2, k3, k4, k5, k6, k7, k8, fz⟩ := fE.cells
         simp only at k0 k1 k2 k3 k4 k5 k6 k7 k8
         obtain ⟨j0, j1, j2, j3, j4, j5, j6, j7, j8, dz⟩ := zE.cells
         have dz0 := dz 0
         have dz1 := dz 1
         have dz2 := dz 2
         have dz3 := dz 3
         have dz4 := dz 4
         have dz5 := dz 5
         have dz6 := dz 6
         have dz7 := dz 7
         have dz8 := dz 8
         have f20 := zE.put ⟨7, none, 0, 0, (textS q1), ⟨#[]⟩, ⟨#[]⟩, none, 0, 0, ⟨#[]⟩, ⟨#[]⟩, false⟩
         have o20 := put_only wE Z ⟨7, none, 0, 0, (textS q1), ⟨#[]⟩, ⟨#[]⟩, none, 0, 0, ⟨#[]⟩, ⟨#[]⟩, false⟩
         have o21 := onE.trans (o20.mono fun g _ hg => .inr (by omega))
         have hRf : Hid (RfQ (putF wE Z ⟨7, none, 0, 0, (textS q1), ⟨#[]⟩, ⟨#[]⟩, none, 0, 0, ⟨#[]⟩, ⟨#[]⟩, false⟩) R v n Q) := part_rf hsQ.out (dE.only o20 (by omega) (by omega)).rf
         have hKp : Hid (∀ a, Q = .ok a → FKeep (news w (putF wE Z ⟨7, none, 0, 0, (textS q1), ⟨#[]⟩, ⟨#[]⟩, none, 0, 0, ⟨#[]⟩, ⟨#[]⟩, false⟩)) (putF wE Z ⟨7, none, 0, 0, (textS q1), ⟨#[]⟩, ⟨#[]⟩, none, 0, 0, ⟨#[]⟩, ⟨#[]⟩, false⟩) ⟨7, none, 0, 0, (textS q1), ⟨#[]⟩, ⟨#[]⟩, none, 0, 0, ⟨#[]⟩, ⟨#[]⟩, false⟩ a .nil) := by
           intro a ha
           exact part_keep7 hsQ.out hacc.out he5.out gh.out.1 gh.out.2.1 gh.out.2.2 hzq1 a ha
         have hend : ∀ tm : Array Value, tm.getD 4 undef = .pointer (some ⟨Z, 0, none⟩) → bodyPost Tryz.prog Tryz.f62 (fun e w' => ∃ f : F9, e = .returned (.agg f.arr) ∧ RfQ w' R v n Q ∧ (∀ a, Q = .ok a → FKeep (news w w') w' f a .nil) ∧ Only (fun g => g = R ∨ g = B) w w') .ret ⟨tm, []⟩ (putF wE Z ⟨7, none, 0, 0, (textS q1), ⟨#[]⟩, ⟨#[]⟩, none, 0, 0, ⟨#[]⟩, ⟨#[]⟩, false⟩) := by
           intro tm htm
           refine bodyPost_ret (results_f rfl _ _ Z _ rfl htm f20) rfl ?_
           exact ⟨_, rfl, hRf.out, hKp.out, o21⟩
         have hendh : Hid _ := hend
         clear hend hRf hKp f20 o20 o21 dz fz
         go_wp2
         exact hendh.out _ rfl
end Go.Proofs.YthjgfpkmfmoheaaGreatDoor

/-
 The document's own reader of packets: what stands while a filter is read, and what is left behind it.
-/
namespace Go.Proofs.YthjgfpkmfmoheaaGreatDoor
open Go.RowKit Go.Shelf

def DEnd (w w' : World) (R : Nat) (v : Value) (f : F9) (nx : Int) (o : Rs PR) : Prop := match o with
 | .ok r => nx = r.nx ∧ FKeep (news w w') w' f r.a r.k ∧ RfB w' R v r.p 0 0 ∧ r.p ≤ 65536
 | .error q => q.1 ≠ 0 ∧ ∃ n, RfB w' R v n q.1 q.2
def DPost (w : World) (R : Nat) (v : Value) (o : Rs PR) (e : Ending) (w' : World) : Prop := Only (fun g => g = R) w w' ∧ ∃ (f : F9) (nx : Int), e = .returned (.tuple #[.agg f.arr, .int .i64 nx]) ∧ DEnd w w' R v f nx o
def DSpec (l : List UInt8) (R : Nat) (v : Value) (f : Nat) : Prop := ∀ (w : World) (p : Nat) (a e : Int), RfB w R v p 0 0 → Sl w v l → p ≤ 65536 → (0 ≤ a → a ≤ e → e ≤ l.length → e - a ≤ 1048576) →
 Calls Tryz.prog 34 #[.pointer (some ⟨R, 0, none⟩), .int .i64 a, .int .i64 e, .int .i64 (64 - f : Nat)] w (DPost w R v (pathR l f a e p))
structure GH (w : World) (B R Z F T H : Nat) (v : Value) : Prop where
 z : w.heap.size ≤ Z
 zf : Z < F
 ft : F < T
 tb : T < B
 bh : B < H
 r : R < w.heap.size
 s : ∀ a n c, v = .slice (some a) n c → a.block < w.heap.size
def TlB (w : World) (T : Nat) (t : Tl) : Prop := w.heap[T]? = some (.cells #[.int .i8 t.cls, .bool t.cons, .int .i64 t.num, .int .i64 t.fro, .int .i64 t.til] 94 (0, 0))
theorem TlB.only {S : Nat → Prop} {w w' : World} {T : Nat} {t : Tl} (h : TlB w T t) (o : Only S w w') (hn : ¬ S T) : TlB w' T t := (o.block T (Array.getElem?_eq_some_iff.1 h).1 hn).trans h
theorem TlB.ext {w w' : World} {T : Nat} {t : Tl} (h : TlB w T t) (y : Ext w w') : TlB w' T t := (y.block T (Array.getElem?_eq_some_iff.1 h).1).trans h
structure GS {α : Type} (w wx : World) (B R Z F T H : Nat) (v : Value) (l : List UInt8) (n : Nat) (x : Ix) (f : F9) (o : Rs α) (p : α → Nat) : Prop where
 dc : DC wx B R v l x
 d : DO wx B R v l n x o p
 fl : FlT wx F f
 zl : FlT wx Z F9.zero
 tl : TlB wx T x.t
 on : Only (fun g => g = R) w wx
 hs : H ≤ wx.heap.size
section
variable {α β : Type} {w wx w' : World} {B R Z F T H : Nat} {v : Value} {l : List UInt8} {n : Nat} {x : Ix} {f f' : F9} {o : Rs α} {p : α → Nat} {o' : Rs β} {p' : β → Nat}
theorem GS.step (h : GS w wx B R Z F T H v l n x f o p) (hh : GH w B R Z F T H v) (k : Only (fun g => g = R ∨ g = B) wx w') (d : DO w' B R v l n x o' p') : GS w w' B R Z F T H v l n x f o' p' := by
 obtain ⟨h1, h2, h3, h4, h5, h6, h7⟩ := hh
 exact ⟨h.dc.next k, d, h.fl.only k (by omega), h.zl.only k (by omega), h.tl.only k (by omega), h.on.trans (k.mono fun g _ hg => hg.elim .inl (fun e => .inr (by omega))), Nat.le_trans h.hs k.size⟩
theorem GS.ext (h : GS w wx B R Z F T H v l n x f o p) (y : Ext wx w') : GS w w' B R Z F T H v l n x f o p :=
 ⟨h.dc.ext y, h.d.only (S := fun _ => False) y.only id id, h.fl.ext y, h.zl.ext y, h.tl.ext y, h.on.ext y, Nat.le_trans h.hs y.size⟩
theorem GS.same (h : GS w wx B R Z F T H v l n x f o p) (d : DO wx B R v l n x o' p') : GS w wx B R Z F T H v l n x f o' p' := ⟨h.dc, d, h.fl, h.zl, h.tl, h.on, h.hs⟩
theorem GS.put (h : GS w wx B R Z F T H v l n x f o p) (hh : GH w B R Z F T H v) (k : Only (fun g => g = F) wx w') (hf : FlT w' F f') : GS w w' B R Z F T H v l n x f' o p := by
 obtain ⟨h1, h2, h3, h4, h5, h6, h7⟩ := hh
 refine ⟨⟨?_, h.dc.ln, h.dc.win, h.dc.ne, h.dc.ap⟩, h.d.only k (by omega) (by omega), hf, h.zl.only k (by omega), h.tl.only k (by omega), h.on.trans (k.mono fun g _ hg => .inr (by omega)), Nat.le_trans h.hs k.size⟩
 obtain ⟨a, nn, cap, e⟩ := h.dc.sl.lit
 subst e
 exact h.dc.sl.onlyB k (fun a' e => by
   subst e
   have := h7 _ _ _ rfl
   omega)
theorem GS.store {j : Nat} {u : Value} (h : GS w wx B R Z F T H v l n x f o p) (hh : GH w B R Z F T H v) (hf : FlT (wx.setCell ⟨F, j, none⟩ u) F f') : GS w (wx.setCell ⟨F, j, none⟩ u) B R Z F T H v l n x f' o p := h.put hh (setOnly wx F j u) hf
end
def DFin (wy : World) (H R : Nat) (v : Value) (f : F9) (nx : Int) (o : Rs PR) : Prop := match o with
 | .ok r => nx = r.nx ∧ FKeep (fun g => H ≤ g ∧ g < wy.heap.size) wy f r.a r.k ∧ RfB wy R v r.p 0 0 ∧ r.p ≤ 65536
 | .error q => q.1 ≠ 0 ∧ ∃ n, RfB wy R v n q.1 q.2
theorem DFin.fin {w wy W : World} {B R Z F T H : Nat} {v : Value} {f : F9} {nx : Int} {o : Rs PR} (h : DFin wy H R v f nx o) (hh : GH w B R Z F T H v) (k : Only (fun g => g = Z) wy W) : DEnd w W R v f nx o := by
 obtain ⟨h1, h2, h3, h4, h5, h6, h7⟩ := hh
 cases o with
 | error q => obtain ⟨k0, n, k1⟩ := h; exact ⟨k0, n, k1.only k (by omega)⟩
 | ok r =>
   obtain ⟨k0, k1, k2, k3⟩ := h
   exact ⟨k0, (k1.next (fun g hg => k.block g hg.2 (by omega))).wide (fun g hg => ⟨by have := hg.1; omega, Nat.lt_of_lt_of_le hg.2 k.size⟩), k2.only k (by omega), k3⟩
theorem dq_end {w wy wz : World} {B R Z F T H : Nat} {v : Value} {f : F9} {nx : Int} {o : Rs PR} (hx : Ext wy wz) (zl : FlT wy Z F9.zero) (on : Only (fun g => g = R) w wy) (hd : DFin wy H R v f nx o) (hh : GH w B R Z F T H v) (tm : Array Value) (h8 : tm.getD 8 undef = .pointer (some ⟨Z, 0, none⟩)) (h9 : tm.getD 9 undef = .int .i64 nx) :
   bodyPost Tryz.prog Tryz.f34 (DPost w R v o) Exit.ret { tmps := tm, defers := [] } (putF wz Z f) := by
 have hz := (zl.ext hx).put f
 have k : Only (fun g => g = Z) wy (putF wz Z f) := (hx.only (S := fun g => g = Z)).then (put_only wz Z f)
 have hZ := hh.z
 refine bodyPost_ret (results_fi rfl _ _ Z _ rfl h8 hz) rfl ?_
 refine ⟨on.trans (k.mono fun g _ hg => .inr (by omega)), f, nx, ?_, hd.fin hh k⟩
 show Ending.returned (.tuple #[.agg f.arr, tm.getD 9 undef]) = _
 rw [h9]
structure GQ (w wx : World) (B R Z F T H : Nat) (v : Value) (n : Nat) (t : Tl) (f : F9) (Q : Rs OwnF) : Prop where
 rf : RfQ wx R v n Q
 kp : ∀ a, Q = .ok a → FKeep (fun g => H ≤ g ∧ g < wx.heap.size) wx f a .nil
 fl : FlT wx F f
 zl : FlT wx Z F9.zero
 tl : TlB wx T t
 on : Only (fun g => g = R) w wx
theorem GQ.ext {w wx w' : World} {B R Z F T H : Nat} {v : Value} {n : Nat} {t : Tl} {f : F9} {Q : Rs OwnF} (h : GQ w wx B R Z F T H v n t f Q) (y : Ext wx w') : GQ w w' B R Z F T H v n t f Q := by
 refine ⟨?_, fun a ha => ((h.kp a ha).next (fun g hg => y.block g hg.2)).wide (fun g hg => ⟨hg.1, Nat.lt_of_lt_of_le hg.2 y.size⟩), h.fl.ext y, h.zl.ext y, h.tl.ext y, h.on.ext y⟩
 have := h.rf
 cases Q with
 | error q => exact ⟨this.1, this.2.ext y⟩
 | ok a => exact RfB.ext this y
theorem GQ.offR {w wx w' : World} {B R Z F T H : Nat} {v : Value} {n : Nat} {t : Tl} {f : F9} {Q : Rs OwnF} (h : GQ w wx B R Z F T H v n t f Q) (hh : GH w B R Z F T H v) (o : Only (fun g => g = R) wx w') : FlT w' F f ∧ FlT w' Z F9.zero ∧ TlB w' T t ∧ Only (fun g => g = R) w w' := by
 obtain ⟨h1, h2, h3, h4, h5, h6, h7⟩ := hh
 exact ⟨h.fl.only o (by omega), h.zl.only o (by omega), h.tl.only o (by omega), h.on.then o⟩
theorem rfq_any {α : Type} {w : World} {R : Nat} {v : Value} {n : Nat} {Q : Rs α} (h : RfQ w R v n Q) : ∃ (c : Nat) (a : Int), RfB w R v n c a ∧ ((∃ b, Q = .ok b ∧ c = 0) ∨ ∃ z, Q = .error z ∧ ¬ c = 0) := by
 cases Q with
 | error z => exact ⟨z.1, z.2, h.2, .inr ⟨z, rfl, h.1⟩⟩
 | ok b => exact ⟨0, 0, h, .inl ⟨b, rfl, rfl⟩⟩
def leafR (Q : Rs OwnF) (m til p : Nat) : Rs PR := bindR Q fun b => bindR (checkedR b .nil m) fun a => .ok ⟨a, .nil, til, p⟩
theorem leaf_err {w wx : World} {B R Z F T H : Nat} {v : Value} {n : Nat} {t : Tl} {f : F9} {q : Nat × Int} (h : GQ w wx B R Z F T H v n t f (.error q)) (m : Nat) (nx : Int) : DFin wx H R v f nx (leafR (.error q) m t.til n) := ⟨h.rf.1, n, h.rf.2⟩
theorem leaf_ok {w wx w' : World} {B R Z F T H : Nat} {v : Value} {n : Nat} {t : Tl} {f : F9} {a : OwnF} (h : GQ w wx B R Z F T H v n t f (.ok a)) (y : Ext wx w') (hc : (checkL a .nil).1 = 0) (hn : n ≤ 65536) (m : Nat) : DFin w' H R v f t.til (leafR (.ok a) m t.til n) := by
 have h' := h.ext y
 show DFin w' H R v f t.til (bindR (checkedR a .nil m) fun a => .ok ⟨a, .nil, t.til, n⟩)
 unfold checkedR
 rw [if_pos hc]
 exact ⟨rfl, h'.kp a rfl, h'.rf, hn⟩
theorem leaf_bad {wy : World} {R H : Nat} {v : Value} {n : Nat} {t : Tl} {f : F9} {a : OwnF} (hc : ¬ (checkL a .nil).1 = 0) (m : Nat) (nx : Int) (hr : RfB wy R v n 90 m) : DFin wy H R v f nx (leafR (.ok a) m t.til n) := by
 show DFin wy H R v f nx (bindR (checkedR a .nil m) fun a => .ok ⟨a, .nil, t.til, n⟩)
 unfold checkedR
 rw [if_neg hc]
 exact ⟨show (90 : Nat) ≠ 0 by decide, n, hr⟩
theorem head_in {l : List UInt8} {m e : Nat} {t : Tl} (hl : l.length < 36028797018963968) (h : headL l m e = (t, 0)) (hb : (0 : Int) ≤ m → (m : Int) ≤ e → (e : Int) ≤ l.length → (e : Int) - m ≤ 1048576) :
   t.Fine ∧ bAt l m = jTag t ∧ (⟨t, m, t.fro⟩ : Ix).Ok l ∧ t.til ≤ e ∧ t.til - t.fro ≤ 1048576 ∧ 0 < l.length := by
 have h0 : (headL l m e).2 = 0 := by rw [h]
 have hf := head_fine hl h0
 have ht := (head_tag h0).1
 have hk := headL_ok l m e h0
 rw [h] at hf ht hk
 simp only [Int.toNat_natCast] at hk
 obtain ⟨h1, h2, h3, h4, h5, h6⟩ := hk
 have := hb h1 h2 h3
 exact ⟨hf, ht, ⟨h4, Nat.le_refl _, h5, by show t.til ≤ l.length; omega⟩, by omega, by omega, by omega⟩
theorem dHead_ok (w : World) (R : Nat) (v : Value) (p : Nat) (l : List UInt8) (m e : Nat) (t : Tl) (hr : RfB w R v p 0 0) (hs : Sl w v l) (hl : l.length < 36028797018963968) (hb : (0 : Int) ≤ m → (m : Int) ≤ e → (e : Int) ≤ l.length → (e : Int) - m ≤ 1048576) (h : headL l m e = (t, 0)) :
   Calls Tryz.prog 56 #[.pointer (some ⟨R, 0, none⟩), .int .i64 m, .int .i64 e] w fun x w' => x = .returned (.tuple #[jV t, .bool true]) ∧ RfB w' R v p 0 0 ∧ Only (fun g => g = R) w w' := by
 have := dHead_any w R v p 0 0 l m e hr hs hl hb
 rw [h] at this
 refine this.mono ?_
 rintro x w' ⟨h1, h2, -, h4⟩
 exact ⟨h1, h2 rfl, h4⟩
theorem dTag_is (w : World) (t : Tl) (ht : t.Fine) (k : Nat) (z : Int) (hk : jTag t = k) (hz : (k : Int) = z) : Calls Tryz.prog 58 #[jV t] w fun e w' => e = .returned (.int .i64 z) ∧ Ext w w' := by
 have := dTag_any w t ht
 rw [hk, hz] at this
 exact this
structure G0 (w wx : World) (R Z F T : Nat) (v : Value) (l : List UInt8) (n : Nat) (t : Tl) : Prop where
 rf : RfB wx R v n 0 0
 sl : Sl wx v l
 fl : FlT wx F F9.zero
 zl : FlT wx Z F9.zero
 tl : TlB wx T t
 on : Only (fun g => g = R) w wx
theorem Sl.offR {w w' : World} {R : Nat} {v : Value} {l : List UInt8} (h : Sl w v l) (o : Only (fun g => g = R) w w') (hap : ∀ a n c, v = .slice (some a) n c → a.block ≠ R) : Sl w' v l := by
 obtain ⟨a, n, c, rfl⟩ := h.lit
 exact h.onlyB o (fun a' e => fun hx => hap a' n c (by rw [e]) hx)
theorem Sl.slt {w : World} {v : Value} {l : List UInt8} (h : Sl w v l) (hp : 0 < l.length) (a : Addr) (n c : Nat) (e : v = .slice (some a) n c) : a.block < w.heap.size := by
 subst e
 obtain ⟨g, o, e2, hc, _⟩ := h.byte 0 hp
 cases e2
 exact World.block_lt_of_cell? _ _ hc
section
variable {w w1 w2 w3 wx w' : World} {R Z F T : Nat} {v : Value} {l : List UInt8} {n : Nat} {t : Tl}
theorem g0_begin (y1 : Ext w w1) (f1 : FlT w1 F F9.zero) (z1 : FlT w1 Z F9.zero) (o2 : Only (fun g => g = R) w1 w2) (r2 : RfB w2 R v n 0 0) (b3 : TlB w3 T t) (x3 : Ext w2 w3) (hs : Sl w v l) (hap : ∀ a n c, v = .slice (some a) n c → a.block ≠ R) (hR : R < w.heap.size) (hZ : w.heap.size ≤ Z) (hF : w.heap.size ≤ F) : G0 w w3 R Z F T v l n t :=
 ⟨r2.ext x3, ((hs.ext y1).offR o2 hap).ext x3, (f1.only o2 (by omega)).ext x3, (z1.only o2 (by omega)).ext x3, b3, (y1.only.then o2).ext x3⟩
theorem G0.ext (h : G0 w wx R Z F T v l n t) (y : Ext wx w') : G0 w w' R Z F T v l n t := ⟨h.rf.ext y, h.sl.ext y, h.fl.ext y, h.zl.ext y, h.tl.ext y, h.on.ext y⟩
theorem G0.count (h : G0 w wx R Z F T v l n t) (hap : ∀ a n c, v = .slice (some a) n c → a.block ≠ R) (hR : R < w.heap.size) (hZ : w.heap.size ≤ Z) (hF : w.heap.size ≤ F) (hT : w.heap.size ≤ T) (q : Nat) : G0 w (wx.setCell ⟨R, 1, none⟩ (.int .i64 q)) R Z F T v l q t := by
 have k := setOnly wx R 1 (.int .i64 q)
 exact ⟨heap_setCell_at wx R 1 _ _ _ _ h.rf, h.sl.offR k hap, h.fl.only k (by omega), h.zl.only k (by omega), h.tl.only k (by omega), h.on.then k⟩
theorem G0.body (h : G0 w wx R Z F T v l n t) (hs : Sl w v l) (hap : ∀ a n c, v = .slice (some a) n c → a.block ≠ R) (hl : l.length < 36028797018963968) (hpos : 0 < l.length) (hR : R < w.heap.size) (hZ : w.heap.size ≤ Z) (hZF : Z < F) (hFT : F < T) (m : Nat) (hx : (⟨t, m, t.fro⟩ : Ix).Ok l) (hw : t.til - t.fro ≤ 1048576) :
   GS w (wx.alloc (.cells #[.pointer (some ⟨R, 0, none⟩), .int .i64 t.fro, .int .i64 t.til, .int .i64 m] 101)) wx.heap.size R Z F T (wx.heap.size + 1) v l n ⟨t, m, t.fro⟩ F9.zero (.ok t.fro : Rs Nat) id ∧ GH w wx.heap.size R Z F T (wx.heap.size + 1) v := by
 have y := (Ext.refl wx).alloc (.cells #[.pointer (some ⟨R, 0, none⟩), .int .i64 t.fro, .int .i64 t.til, .int .i64 m] 101)
 have hsz := h.on.size
 have hTl := (Array.getElem?_eq_some_iff.1 h.tl).1
 have hslt := fun a n c e => hs.slt hpos a n c e
 refine ⟨⟨⟨h.sl.ext y, hl, hw, by omega, fun a n c e => ⟨by have := hslt a n c e; omega, hap a n c e⟩⟩, ⟨h.rf.ext y, heap_alloc_new _ _, hx⟩, h.fl.ext y, h.zl.ext y, h.tl.ext y, h.on.ext y, by rw [World.size_alloc]; omega⟩, ⟨hZ, hZF, hFT, hTl, by omega, hR, hslt⟩⟩
end
theorem RfQ.only {α : Type} {S : Nat → Prop} {w w' : World} {R : Nat} {v : Value} {n : Nat} {o : Rs α} (h : RfQ w R v n o) (k : Only S w w') (hR : ¬ S R) : RfQ w' R v n o := by
 cases o with
 | error q => exact ⟨h.1, h.2.only k hR⟩
 | ok a => exact RfB.only h k hR
theorem gq_call {α : Type} {w w6 w7 : World} {B R Z F T H : Nat} {v : Value} {l : List UInt8} {n : Nat} {x : Ix} {f f7 : F9} {o : Rs α} {p : α → Nat} {Q : Rs OwnF} (s : GS w w6 B R Z F T H v l n x f o p) (hh : GH w B R Z F T H v) (o7 : Only (fun g => g = R ∨ g = B) w6 w7) (rf7 : RfQ w7 R v n Q) (kp7 : ∀ a, Q = .ok a → FKeep (news w6 w7) w7 f7 a .nil) :
   FlT w7 F f ∧ GQ w (putF w7 F f7) B R Z F T H v n x.t f7 Q := by
 obtain ⟨h1, h2, h3, h4, h5, h6, h7⟩ := hh
 have hs := s.hs
 have fl7 := s.fl.only o7 (by omega)
 have k := put_only w7 F f7
 refine ⟨fl7, rf7.only k (by omega), fun a ha => ((kp7 a ha).next (fun g hg => k.block g hg.2 (by have := hg.1; omega))).wide (fun g hg => ⟨by have := hg.1; omega, Nat.lt_of_lt_of_le hg.2 k.size⟩), fl7.put f7, (s.zl.only o7 (by omega)).only k (by omega), (s.tl.only o7 (by omega)).only k (by omega), ?_⟩
 exact (s.on.trans (o7.mono fun g _ hg => hg.elim .inl (fun e => .inr (by omega)))).trans (k.mono fun g _ hg => .inr (by omega))
theorem gq_of {α : Type} {w wx : World} {B R Z F T H : Nat} {v : Value} {l : List UInt8} {n : Nat} {x : Ix} {f : F9} {o : Rs α} {p : α → Nat} {Q : Rs OwnF} (s : GS w wx B R Z F T H v l n x f o p) (rf : RfQ wx R v n Q) (kp : ∀ a, Q = .ok a → FKeep (fun g => H ≤ g ∧ g < wx.heap.size) wx f a .nil) : GQ w wx B R Z F T H v n x.t f Q := ⟨rf, kp, s.fl, s.zl, s.tl, s.on⟩
def agO (l : List UInt8) (x : Ix) (k : Int) (o : Rs Nat) : Rs OwnF := bindR (textO l x 4 o) fun d => bindR (textO l x 4 (.ok d.2)) fun u => bindR (overO l x (.ok u.2)) fun _ => .ok { ownK k with desc := str d.1, value := str u.1 }
theorem ag_steps {l : List UInt8} {x : Ix} {k : Int} {O0 O1 O2 O3 : Rs Nat} {q1 q2 : Rs (List UInt8 × Nat)} (h1 : q1 = textO l x 4 O0) (e1 : O1 = bindR q1 fun r => .ok r.2) (h2 : q2 = textO l x 4 O1) (e2 : O2 = bindR q2 fun r => .ok r.2) (h3 : O3 = overO l x O2) :
   (∃ e, O3 = .error e ∧ agO l x k O0 = .error e) ∨ (∃ j, O3 = .ok j ∧ agO l x k O0 = .ok { ownK k with desc := textS q1, value := textS q2 }) := by
 unfold agO
 rw [← h1]
 cases q1 with
 | error q => left; subst e1 h2 e2 h3; exact ⟨q, rfl, rfl⟩
 | ok d =>
   subst e1
   simp only [bindR] at h2 ⊢
   rw [← h2]
   cases q2 with
   | error q => left; subst e2 h3; exact ⟨q, rfl, rfl⟩
   | ok u =>
     subst e2
     simp only [bindR] at h3 ⊢
     unfold overO at h3
     simp only [bindR] at h3
     cases he : endR l (x.to u.2) with
     | error q => left; rw [he] at h3; exact ⟨q, h3, by unfold overO; simp only [bindR, he]⟩
     | ok _ => right; rw [he] at h3; exact ⟨u.2, h3, by unfold overO; simp only [bindR, he]; rfl⟩
theorem ag_rf {w : World} {R : Nat} {v : Value} {n : Nat} {O3 : Rs Nat} {Q : Rs OwnF} {a : OwnF} (h : (∃ e, O3 = .error e ∧ Q = .error e) ∨ (∃ j, O3 = .ok j ∧ Q = .ok a)) (hr : RfQ w R v n O3) : RfQ w R v n Q := by
 rcases h with ⟨e, g1, g2⟩ | ⟨j, g1, g2⟩
 · rw [g2]; rw [g1] at hr; exact hr
 · rw [g2]; rw [g1] at hr; exact hr
theorem ag_keep {S : Nat → Prop} {w : World} {O3 : Rs Nat} {Q : Rs OwnF} {k : Int} {d u : ByteArray} (hk : -128 ≤ k ∧ k ≤ 127) (h : (∃ e, O3 = .error e ∧ Q = .error e) ∨ (∃ j, O3 = .ok j ∧ Q = .ok { ownK k with desc := d, value := u })) (hd : d.size ≤ 281474976710656) (hu : u.size ≤ 281474976710656) (a : OwnF) (ha : Q = .ok a) : FKeep S w ⟨k, none, 0, 0, d, u, ⟨#[]⟩, none, 0, 0, ⟨#[]⟩, ⟨#[]⟩, false⟩ a .nil := by
 rcases h with ⟨e, -, g2⟩ | ⟨j, -, g2⟩
 · rw [g2] at ha; cases ha
 · rw [g2] at ha
   simp only [Except.ok.injEq] at ha
   subst ha
   exact fun W _ => ⟨⟨rfl, rfl, rfl, rfl, rfl, rfl, rfl, ⟨hd, hu, Nat.zero_le _, Nat.zero_le _, Nat.zero_le _⟩, ssl_nil rfl (Nat.zero_le _), (fun s hs => by cases hs), hk⟩, fkids_nil _ _ _ _ _ _ _ _ _ _ _⟩
end Go.Proofs.YthjgfpkmfmoheaaGreatDoor

/-
 The document's own reader of packets: a filter, where it ends early (written by gen/mkdt.py).
-/
namespace Go.Proofs.YthjgfpkmfmoheaaGreatDoor
open Go.RowKit Go.Shelf

theorem dq_bad {w wz : World} {R Z : Nat} {v : Value} {f : F9} {q : Nat × Int} (zl : FlT wz Z F9.zero) (on : Only (fun g => g = R) w wz) (hq : q.1 ≠ 0) (n : Nat) (hr : RfB wz R v n q.1 q.2) (hZ : w.heap.size ≤ Z) (hRl : R < w.heap.size) (tm : Array Value) (h8 : tm.getD 8 undef = .pointer (some ⟨Z, 0, none⟩)) (nx : Int) (h9 : tm.getD 9 undef = .int .i64 nx) :
   bodyPost Tryz.prog Tryz.f34 (DPost w R v (.error q)) Exit.ret { tmps := tm, defers := [] } (putF wz Z f) := by
 have k := put_only wz Z f
 refine bodyPost_ret (results_fi rfl _ _ Z _ rfl h8 (zl.put f)) rfl ?_
 refine ⟨on.trans (k.mono fun g _ hg => .inr (by omega)), f, nx, ?_, hq, n, hr.only k (by omega)⟩
 show Ending.returned (.tuple #[.agg f.arr, tm.getD 9 undef]) = _
 rw [h9]

set_option maxRecDepth 100000 in
set_option maxHeartbeats 4000000 in
theorem dq_noitem (l : List UInt8) (R : Nat) (v : Value) (hl : l.length < 36028797018963968) (w : World) (p : Nat) (a e : Int) (ab : Nat) (hr : RfB w R v p 0 0) (hs : Sl w v l) (hbd : (0 : Int) ≤ a → a ≤ e → e ≤ l.length → e - a ≤ 1048576) (t : Tl) (er : Nat) (h0 : er ≠ 0) (hhd : headL l a e = (t, er)) :
   Calls Tryz.prog 34 #[.pointer (some ⟨R, 0, none⟩), .int .i64 a, .int .i64 e, .int .i64 (ab : Nat)] w (DPost w R v ((.error (er, a)) : Rs PR)) := by
 have hH := fun W (y : Ext w W) => dHead_any W R v p 0 0 l a e (hr.ext y) (hs.ext y) hl hbd
 rw [hhd] at hH
 obtain ⟨cls, cons, num, fro, til⟩ := t
 simp only [tv, decide_eq_false h0] at hH
 have z0 := fl_new w
 have x0 := (Ext.refl w).alloc (.cells #[.int .i8 0, .slice none 0 0, .string ⟨#[]⟩, .string ⟨#[]⟩, .string ⟨#[]⟩, .slice none 0 0, .string ⟨#[]⟩, .string ⟨#[]⟩, .bool false] 27)
 have f0 := fl_new (w.alloc (.cells #[.int .i8 0, .slice none 0 0, .string ⟨#[]⟩, .string ⟨#[]⟩, .string ⟨#[]⟩, .slice none 0 0, .string ⟨#[]⟩, .string ⟨#[]⟩, .bool false] 27))
 rw [World.size_alloc] at f0
 have x1 := (Ext.refl (w.alloc (.cells #[.int .i8 0, .slice none 0 0, .string ⟨#[]⟩, .string ⟨#[]⟩, .string ⟨#[]⟩, .slice none 0 0, .string ⟨#[]⟩, .string ⟨#[]⟩, .bool false] 27))).alloc (.cells #[.int .i8 0, .slice none 0 0, .string ⟨#[]⟩, .string ⟨#[]⟩, .string ⟨#[]⟩, .slice none 0 0, .string ⟨#[]⟩, .string ⟨#[]⟩, .bool false] 27)
 have z1 := z0.ext x1
 have y1 := x0.trans x1
 clear z0 x0 x1
 go_enter Tryz.func34, Tryz.ntmps34
 go_upto_region 2 with fail
 generalize World.alloc (World.alloc w _) _ = w1 at f0 z1 y1 ⊢
 obtain ⟨F, hF⟩ : ∃ F, Hid (F = w.heap.size + 1) := ⟨_, rfl⟩
 obtain ⟨Z, hZ⟩ : ∃ Z, Hid (Z = w.heap.size) := ⟨_, rfl⟩
 rw [← hF.out] at f0 ⊢
 rw [← hZ.out] at z1 ⊢
 have hZw : w.heap.size ≤ Z := by have := hZ.out; omega
 have hZF : Z < F := by have := hZ.out; have := hF.out; omega
 have hRl : R < w.heap.size := (Array.getElem?_eq_some_iff.1 hr).1
 go_wp2_with fail
 go_at_call 56
 refine (hH _ y1).mono ?_
 rintro _ w2 ⟨rfl, -, r2, o2⟩
 have r2 : RfB w2 R v p er a := r2 h0
 try dsimp only
 obtain ⟨b3, x3⟩ := jbox w2 ⟨cls, cons, num, fro, til⟩
 simp only at b3 x3
 have zE := (z1.only o2 (by omega)).ext x3
 have fE := (f0.only o2 (by omega)).ext x3
 have onE := (y1.only.then o2).ext x3
 have rE := r2.ext x3
 have hqE : ((er, a) : Nat × Int).1 ≠ 0 := h0
 clear z1 f0 r2 o2 y1 hH
 go_upto_region 3 with fail
 generalize w2.alloc _ = w3 at b3 x3 zE fE onE rE ⊢
 obtain ⟨d0, d1, d2, d3, d4, d5, d6, d7, d8, dz⟩ := zE.cells
 simp only [F9.zero] at d0 d1 d2 d3 d4 d5 d6 d7 d8
 have dz0 := dz 0
 have dz1 := dz 1
 have dz2 := dz 2
 have dz3 := dz 3
 have dz4 := dz 4
 have dz5 := dz 5
 have dz6 := dz 6
 have dz7 := dz 7
 have dz8 := dz 8
 obtain ⟨g0, g1, g2, g3, g4, g5, g6, g7, g8, -⟩ := fE.cells
 simp only [F9.zero] at g0 g1 g2 g3 g4 g5 g6 g7 g8
 have hend : Hid _ := dq_bad (f := F9.zero) zE onE hqE _ rE hZw hRl
 clear dz zE fE onE rE
 go_wp2
 exact hend.out _ rfl _ rfl

set_option maxRecDepth 100000 in
set_option maxHeartbeats 4000000 in
theorem dq_deep (l : List UInt8) (R : Nat) (v : Value) (hl : l.length < 36028797018963968) (w : World) (p a e : Nat) (hr : RfB w R v p 0 0) (hs : Sl w v l) (hbd : (0 : Int) ≤ a → (a : Int) ≤ e → (e : Int) ≤ l.length → (e : Int) - a ≤ 1048576) (t : Tl) (hhd : headL l a e = (t, 0)) :
   Calls Tryz.prog 34 #[.pointer (some ⟨R, 0, none⟩), .int .i64 a, .int .i64 e, .int .i64 (64 : Nat)] w (DPost w R v ((.error (91, (a : Int))) : Rs PR)) := by
 have hft : t.Fine := by have := head_fine hl (show (headL l a e).2 = 0 by rw [hhd]); rwa [hhd] at this
 have hH := fun W (y : Ext w W) => dHead_any W R v p 0 0 l a e (hr.ext y) (hs.ext y) hl hbd
 rw [hhd] at hH
 obtain ⟨cls, cons, num, fro, til⟩ := t
 simp only [tv, decide_true] at hH
 have z0 := fl_new w
 have x0 := (Ext.refl w).alloc (.cells #[.int .i8 0, .slice none 0 0, .string ⟨#[]⟩, .string ⟨#[]⟩, .string ⟨#[]⟩, .slice none 0 0, .string ⟨#[]⟩, .string ⟨#[]⟩, .bool false] 27)
 have f0 := fl_new (w.alloc (.cells #[.int .i8 0, .slice none 0 0, .string ⟨#[]⟩, .string ⟨#[]⟩, .string ⟨#[]⟩, .slice none 0 0, .string ⟨#[]⟩, .string ⟨#[]⟩, .bool false] 27))
 rw [World.size_alloc] at f0
 have x1 := (Ext.refl (w.alloc (.cells #[.int .i8 0, .slice none 0 0, .string ⟨#[]⟩, .string ⟨#[]⟩, .string ⟨#[]⟩, .slice none 0 0, .string ⟨#[]⟩, .string ⟨#[]⟩, .bool false] 27))).alloc (.cells #[.int .i8 0, .slice none 0 0, .string ⟨#[]⟩, .string ⟨#[]⟩, .string ⟨#[]⟩, .slice none 0 0, .string ⟨#[]⟩, .string ⟨#[]⟩, .bool false] 27)
 have z1 := z0.ext x1
 have y1 := x0.trans x1
 clear z0 x0 x1
 go_enter Tryz.func34, Tryz.ntmps34
 go_upto_region 2 with fail
 generalize World.alloc (World.alloc w _) _ = w1 at f0 z1 y1 ⊢
 obtain ⟨F, hF⟩ : ∃ F, Hid (F = w.heap.size + 1) := ⟨_, rfl⟩
 obtain ⟨Z, hZ⟩ : ∃ Z, Hid (Z = w.heap.size) := ⟨_, rfl⟩
 rw [← hF.out] at f0 ⊢
 rw [← hZ.out] at z1 ⊢
 have hZw : w.heap.size ≤ Z := by have := hZ.out; omega
 have hZF : Z < F := by have := hZ.out; have := hF.out; omega
 have hRl : R < w.heap.size := (Array.getElem?_eq_some_iff.1 hr).1
 go_wp2_with fail
 go_at_call 56
 refine (hH _ y1).mono ?_
 rintro _ w2 ⟨rfl, r2, -, o2⟩
 have r2 := r2 trivial
 try dsimp only
 obtain ⟨b3, x3⟩ := jbox w2 ⟨cls, cons, num, fro, til⟩
 simp only at b3 x3
 have z3 := (z1.only o2 (by omega)).ext x3
 have f3 := (f0.only o2 (by omega)).ext x3
 have on3 := (y1.only.then o2).ext x3
 have r3 := r2.ext x3
 clear z1 f0 r2 o2 y1 hH
 go_upto_region 3 with fail
 generalize w2.alloc _ = w3 at b3 x3 z3 f3 on3 r3 ⊢
 have hF4 := dFail_any w3 R v p 0 0 91 a r3
 go_wp2_with fail
 go_at_call 57
 refine hF4.mono ?_
 rintro _ w4 ⟨rfl, r4, o4⟩
 have r4 : RfB w4 R v p 91 a := r4
 have hqE : ((91, (a : Int)) : Nat × Int).1 ≠ 0 := by show (91 : Nat) ≠ 0; decide
 have fE := f3.only o4 (by omega)
 have zE := z3.only o4 (by omega)
 have onE := on3.then o4
 have rE := r4
 clear f3 z3 on3 r4 o4 hF4
 obtain ⟨d0, d1, d2, d3, d4, d5, d6, d7, d8, dz⟩ := zE.cells
 simp only [F9.zero] at d0 d1 d2 d3 d4 d5 d6 d7 d8
 have dz0 := dz 0
 have dz1 := dz 1
 have dz2 := dz 2
 have dz3 := dz 3
 have dz4 := dz 4
 have dz5 := dz 5
 have dz6 := dz 6
 have dz7 := dz 7
 have dz8 := dz 8
 obtain ⟨g0, g1, g2, g3, g4, g5, g6, g7, g8, -⟩ := fE.cells
 simp only [F9.zero] at g0 g1 g2 g3 g4 g5 g6 g7 g8
 have hend : Hid _ := dq_bad (f := F9.zero) zE onE hqE _ rE hZw hRl
 clear dz zE fE onE rE
 go_wp2
 exact hend.out _ rfl _ rfl

set_option maxRecDepth 100000 in
set_option maxHeartbeats 4000000 in
theorem dq_full (l : List UInt8) (R : Nat) (v : Value) (hl : l.length < 36028797018963968) (w : World) (p a e : Nat) (hr : RfB w R v p 0 0) (hs : Sl w v l) (hbd : (0 : Int) ≤ a → (a : Int) ≤ e → (e : Int) ≤ l.length → (e : Int) - a ≤ 1048576) (ab : Nat) (hab : ab < 64) (hp : p = 65536) (t : Tl) (hhd : headL l a e = (t, 0)) (hk : jTag t ≠ 162) :
   Calls Tryz.prog 34 #[.pointer (some ⟨R, 0, none⟩), .int .i64 a, .int .i64 e, .int .i64 (ab : Nat)] w (DPost w R v ((.error (3, (a : Int))) : Rs PR)) := by
 have hft : t.Fine := by have := head_fine hl (show (headL l a e).2 = 0 by rw [hhd]); rwa [hhd] at this
 have hH := fun W (y : Ext w W) => dHead_any W R v p 0 0 l a e (hr.ext y) (hs.ext y) hl hbd
 rw [hhd] at hH
 obtain ⟨cls, cons, num, fro, til⟩ := t
 simp only [tv, decide_true] at hH
 have z0 := fl_new w
 have x0 := (Ext.refl w).alloc (.cells #[.int .i8 0, .slice none 0 0, .string ⟨#[]⟩, .string ⟨#[]⟩, .string ⟨#[]⟩, .slice none 0 0, .string ⟨#[]⟩, .string ⟨#[]⟩, .bool false] 27)
 have f0 := fl_new (w.alloc (.cells #[.int .i8 0, .slice none 0 0, .string ⟨#[]⟩, .string ⟨#[]⟩, .string ⟨#[]⟩, .slice none 0 0, .string ⟨#[]⟩, .string ⟨#[]⟩, .bool false] 27))
 rw [World.size_alloc] at f0
 have x1 := (Ext.refl (w.alloc (.cells #[.int .i8 0, .slice none 0 0, .string ⟨#[]⟩, .string ⟨#[]⟩, .string ⟨#[]⟩, .slice none 0 0, .string ⟨#[]⟩, .string ⟨#[]⟩, .bool false] 27))).alloc (.cells #[.int .i8 0, .slice none 0 0, .string ⟨#[]⟩, .string ⟨#[]⟩, .string ⟨#[]⟩, .slice none 0 0, .string ⟨#[]⟩, .string ⟨#[]⟩, .bool false] 27)
 have z1 := z0.ext x1
 have y1 := x0.trans x1
 clear z0 x0 x1
 go_enter Tryz.func34, Tryz.ntmps34
 go_upto_region 2 with fail
 generalize World.alloc (World.alloc w _) _ = w1 at f0 z1 y1 ⊢
 obtain ⟨F, hF⟩ : ∃ F, Hid (F = w.heap.size + 1) := ⟨_, rfl⟩
 obtain ⟨Z, hZ⟩ : ∃ Z, Hid (Z = w.heap.size) := ⟨_, rfl⟩
 rw [← hF.out] at f0 ⊢
 rw [← hZ.out] at z1 ⊢
 have hZw : w.heap.size ≤ Z := by have := hZ.out; omega
 have hZF : Z < F := by have := hZ.out; have := hF.out; omega
 have hRl : R < w.heap.size := (Array.getElem?_eq_some_iff.1 hr).1
 go_wp2_with fail
 go_at_call 56
 refine (hH _ y1).mono ?_
 rintro _ w2 ⟨rfl, r2, -, o2⟩
 have r2 := r2 trivial
 try dsimp only
 obtain ⟨b3, x3⟩ := jbox w2 ⟨cls, cons, num, fro, til⟩
 simp only at b3 x3
 have z3 := (z1.only o2 (by omega)).ext x3
 have f3 := (f0.only o2 (by omega)).ext x3
 have on3 := (y1.only.then o2).ext x3
 have r3 := r2.ext x3
 clear z1 f0 r2 o2 y1 hH
 go_upto_region 3 with fail
 generalize w2.alloc _ = w3 at b3 x3 z3 f3 on3 r3 ⊢
 have hab64 : decide ((64 : Int) ≤ (ab : Int)) = false := decide_eq_false (by omega)
 have n1 : decide ((65536 : Int) ≤ (p : Int)) = true := decide_eq_true (by omega)
 have hT3 := dTag_any w3 ⟨cls, cons, num, fro, til⟩ hft
 obtain ⟨c0, c1, c2, c3, c4⟩ := jcells (t := ⟨cls, cons, num, fro, til⟩) b3
 simp only [jV] at c0 c1 c2 c3 c4 hT3
 generalize jTag ⟨cls, cons, num, fro, til⟩ = k at hT3 hk
 have hk2 : ((k : Int) != 162) = true := by simp only [bne_iff_ne, ne_eq]; omega
 clear hp
 go_wp2_with fail
 go_at_call 58
 refine hT3.mono ?_
 rintro _ w3b ⟨rfl, x3b⟩
 have r3 := r3.ext x3b
 have z3 := z3.ext x3b
 have f3 := f3.ext x3b
 have on3 := on3.ext x3b
 obtain ⟨e0, e1, e2, e3, -⟩ := r3.cells
 have hF4 := dFail_any w3b R v p 0 0 3 a r3
 clear hT3 c0 c1 c2 c3 c4 b3 x3 x3b
 go_wp2_with fail
 go_at_call 57
 refine hF4.mono ?_
 rintro _ w4 ⟨rfl, r4, o4⟩
 have r4 : RfB w4 R v p 3 a := r4
 clear e0 e1 e2 e3 n1
 have hqE : ((3, (a : Int)) : Nat × Int).1 ≠ 0 := by show (3 : Nat) ≠ 0; decide
 have fE := f3.only o4 (by omega)
 have zE := z3.only o4 (by omega)
 have onE := on3.then o4
 have rE := r4
 clear f3 z3 on3 r4 o4 hF4
 obtain ⟨d0, d1, d2, d3, d4, d5, d6, d7, d8, dz⟩ := zE.cells
 simp only [F9.zero] at d0 d1 d2 d3 d4 d5 d6 d7 d8
 have dz0 := dz 0
 have dz1 := dz 1
 have dz2 := dz 2
 have dz3 := dz 3
 have dz4 := dz 4
 have dz5 := dz 5
 have dz6 := dz 6
 have dz7 := dz 7
 have dz8 := dz 8
 obtain ⟨g0, g1, g2, g3, g4, g5, g6, g7, g8, -⟩ := fE.cells
 simp only [F9.zero] at g0 g1 g2 g3 g4 g5 g6 g7 g8
 have hend : Hid _ := dq_bad (f := F9.zero) zE onE hqE _ rE hZw hRl
 clear dz zE fE onE rE
 go_wp2
 exact hend.out _ rfl _ rfl
end Go.Proofs.YthjgfpkmfmoheaaGreatDoor

/-
 The document's own reader of packets: what stands while kids are read.
-/
namespace Go.Proofs.YthjgfpkmfmoheaaGreatDoor
open Go.RowKit Go.Shelf

abbrev KOut := Rs (Nat × Nat × List (OwnF × FT))
def f9K (k : Int) (ka : Option Addr) (kn kc : Nat) : F9 := ⟨k, ka, kn, kc, ⟨#[]⟩, ⟨#[]⟩, ⟨#[]⟩, none, 0, 0, ⟨#[]⟩, ⟨#[]⟩, false⟩
def KO (wr : World) (B R H : Nat) (v : Value) (l : List UInt8) (x : Ix) (u : Value) (fs : List F9) (O : KOut) : Prop := match O with
 | .ok r => RfB wr R v r.2.1 0 0 ∧ BdB wr B R (x.to r.1) ∧ (x.to r.1).Ok l ∧ r.2.1 ≤ 65536 ∧ r.2.2.length + x.t.fro ≤ r.1 ∧ ∃ Bs : Nat → Prop, KeepL Bs wr fs r.2.2 ∧ ∀ g, Bs g → H ≤ g ∧ g < wr.heap.size ∧ ¬ own u g
 | .error q => q.1 ≠ 0 ∧ ∃ n, RfB wr R v n q.1 q.2
structure KD (w wr : World) (B R Z F T H : Nat) (v : Value) (l : List UInt8) (x : Ix) (k : Int) (O : KOut) (ka : Option Addr) (kn kc : Nat) (fs : List F9) : Prop where
 sl : Sl wr v l
 zl : FlT wr Z F9.zero
 tl : TlB wr T x.t
 on : Only (fun g => g = R) w wr
 hs : H ≤ wr.heap.size
 fl : FlT wr F (f9K k ka kn kc)
 row : RowF wr (own (.slice ka kn kc)) (.slice ka kn kc) fs
 up : ∀ g, own (.slice ka kn kc) g → H ≤ g
 ko : KO wr B R H v l x (.slice ka kn kc) fs O
section
variable {w wr w' : World} {B R Z F T H : Nat} {v : Value} {l : List UInt8} {x : Ix} {k : Int} {O : KOut} {ka : Option Addr} {kn kc : Nat} {fs : List F9}
theorem KD.ext (h : KD w wr B R Z F T H v l x k O ka kn kc fs) (y : Ext wr w') : KD w w' B R Z F T H v l x k O ka kn kc fs := by
 refine ⟨h.sl.ext y, h.zl.ext y, h.tl.ext y, h.on.ext y, Nat.le_trans h.hs y.size, h.fl.ext y, Row.ext h.row y, h.up, ?_⟩
 have h3 := h.ko
 cases O with
 | error q => obtain ⟨k0, n, k1⟩ := h3; exact ⟨k0, n, k1.ext y⟩
 | ok r =>
   obtain ⟨k0, k1, k2, k3, k4, Bs, k5, k6⟩ := h3
   exact ⟨k0.ext y, k1.ext y, k2, k3, k4, Bs, k5.next (fun g hg => y.block g (k6 g hg).2.1), fun g hg => ⟨(k6 g hg).1, Nat.lt_of_lt_of_le (k6 g hg).2.1 y.size, (k6 g hg).2.2⟩⟩
theorem kd_begin {n : Nat} (h : GS w wr B R Z F T H v l n x (f9K k none 0 0) (.ok x.t.fro : Rs Nat) id) (hn : n ≤ 65536) : KD w wr B R Z F T H v l x k (.ok (x.t.fro, n, [])) none 0 0 [] := by
 obtain ⟨d1, d2, d3⟩ := h.d
 exact ⟨h.dc.sl, h.zl, h.tl, h.on, h.hs, h.fl, row_nil _ _ _ _, fun g hg => by simp [own, Value.ownBlock] at hg, d1, d2, d3, hn, by show 0 + _ ≤ _; omega, fun _ => False, trivial, fun g hg => hg.elim⟩
theorem kd_bad {n : Nat} {q : Nat × Int} (h : GS w wr B R Z F T H v l n x (f9K k none 0 0) (.error q : Rs Nat) id) : KD w wr B R Z F T H v l x k (.error q) none 0 0 [] := by
 obtain ⟨d0, d1, -⟩ := h.d
 exact ⟨h.dc.sl, h.zl, h.tl, h.on, h.hs, h.fl, row_nil _ _ _ _, fun g hg => by simp [own, Value.ownBlock] at hg, d0, n, d1⟩
structure KK (wr wk : World) (K R : Nat) (v : Value) (f : F9) (nx : Int) (o : Rs PR) : Prop where
 fl : FlT wk K f
 on : Only (fun g => g = R) wr wk
 a1 : wr.heap.size ≤ K
 e : DEnd wr wk R v f nx o
theorem kk_call {w4 w5 : World} {K R : Nat} {v : Value} {f f0 : F9} {nx : Int} {o : Rs PR} (o4 : Only (fun g => g = R) wr w4) (e4 : DEnd wr w4 R v f nx o) (y : Ext w4 w5) (z : FlT w5 K f0) (hK : w4.heap.size ≤ K) (hR : R < wr.heap.size) : KK wr (putF w5 K f) K R v f nx o := by
 have k := put_only w5 K f
 have hsz := o4.size
 have hy := y.size
 refine ⟨z.put f, (o4.ext y).trans (k.mono fun g _ hg => .inr (by omega)), by omega, ?_⟩
 cases o with
 | error q => obtain ⟨k0, n, k1⟩ := e4; exact ⟨k0, n, (k1.ext y).only k (by omega)⟩
 | ok r =>
   obtain ⟨k0, k1, k2, k3⟩ := e4
   have k4 := (k1.next (w' := w5) (fun g hg => y.block g hg.2)).next (w' := putF w5 K f) (fun g hg => k.block g (Nat.lt_of_lt_of_le hg.2 hy) (by have := hg.2; omega))
   exact ⟨k0, k4.wide (fun g hg => ⟨hg.1, Nat.lt_of_lt_of_le hg.2 (Nat.le_trans hy k.size)⟩), (k2.ext y).only k (by omega), k3⟩
theorem kk_box {w4 w5 : World} {K R : Nat} {v : Value} {f f0 : F9} {nx : Int} {o : Rs PR} (y : Ext wr w4) (z : FlT w4 K f0) (hK : wr.heap.size ≤ K) (o5 : Only (fun g => g = R) w4 w5) (e5 : DEnd w4 w5 R v f nx o) (hR : R < wr.heap.size) : KK wr (putF w5 K f) K R v f nx o := by
 have k := put_only w5 K f
 have hzl := z.lt
 have hsz := o5.size
 have hy := y.size
 refine ⟨(z.only o5 (by omega)).put f, (y.only.then o5).trans (k.mono fun g _ hg => .inr (by omega)), hK, ?_⟩
 cases o with
 | error q => obtain ⟨k0, n, k1⟩ := e5; exact ⟨k0, n, k1.only k (by omega)⟩
 | ok r =>
   obtain ⟨k0, k1, k2, k3⟩ := e5
   have k4 := k1.next (w' := putF w5 K f) (fun g hg => k.block g hg.2 (by have := hg.1; omega))
   exact ⟨k0, k4.wide (fun g hg => ⟨by have := hg.1; omega, Nat.lt_of_lt_of_le hg.2 k.size⟩), k2.only k (by omega), k3⟩
def kidO (o : Rs PR) (acc : List (OwnF × FT)) : KOut := bindR o fun r => .ok (r.nx, r.p, acc ++ [(r.a, r.k)])
theorem KD.kid {wk : World} {n p : Nat} {acc : List (OwnF × FT)} {K : Nat} {f : F9} {nx : Int} {o : Rs PR} (h : KD w wr B R Z F T H v l x k (.ok (n, p, acc)) ka kn kc fs) (hh : GH w B R Z F T H v) (hk : KK wr wk K R v f nx o) :
   fs.length = acc.length ∧ RowF wk (own (.slice ka kn kc)) (.slice ka kn kc) fs ∧ FlT wk F (f9K k ka kn kc) ∧ BdB wk B R (x.to n) ∧ acc.length + x.t.fro ≤ x.t.til := by
 obtain ⟨h1, h2, h3, h4, h5, h6, h7⟩ := hh
 obtain ⟨k0, k1, k2, k3, k4, Bs, k5, k6⟩ := h.ko
 refine ⟨k5.len, Row.kept h.row hk.on (fun g hg => by have := h.up g hg; omega), h.fl.only hk.on (by omega), k1.only hk.on (by omega), ?_⟩
 have := k2.2.2.1
 simp only [Ix.to] at this k4
 omega
theorem KD.push {wk w8 : World} {n p g cap : Nat} {acc : List (OwnF × FT)} {K : Nat} {f : F9} {nx : Int} {o : Rs PR} (h : KD w wr B R Z F T H v l x k (.ok (n, p, acc)) ka kn kc fs) (hh : GH w B R Z F T H v) (hap : ∀ a n c, v = .slice (some a) n c → a.block ≠ R) (hk : KK wr wk K R v f nx o)
   (r8 : RowF w8 (Up (own (.slice ka kn kc)) wk.heap.size) (.slice (some ⟨g, 0, none⟩) (fs.length + 1) cap) (fs ++ [f])) (o8 : Only (own (.slice ka kn kc)) wk w8) (hb : ∀ r, o = .ok r → n + 2 ≤ r.nx ∧ r.nx ≤ x.t.til) :
   KD w ((w8.setCell ⟨F, 1, none⟩ (.slice (some ⟨g, 0, none⟩) (fs.length + 1) cap)).setCell ⟨B, 1, none⟩ (.int .i64 nx)) B R Z F T H v l x k (kidO o acc) (some ⟨g, 0, none⟩) (fs.length + 1) cap (fs ++ [f]) := by
 obtain ⟨h1, h2, h3, h4, h5, h6, h7⟩ := hh
 obtain ⟨k0, k1, k2, k3, k4, Bs, k5, k6⟩ := h.ko
 have g2 := h.up
 have hsz := h.hs
 have hsk := hk.on.size
 have hs8 := o8.size
 have hnu : ∀ j, j < H → ¬ own (.slice ka kn kc) j := fun j hj hu => by have := g2 j hu; omega
 have hrl := fun j hj => Row.lt h.row (k := j) hj
 have fl8 := (h.fl.only hk.on (by omega)).only o8 (hnu F (by omega))
 have fl9 := fl8.set1 (some ⟨g, 0, none⟩) (fs.length + 1) cap
 have q9 := setOnly w8 F 1 (.slice (some ⟨g, 0, none⟩) (fs.length + 1) cap)
 have b9 := ((k1.only hk.on (by omega)).only o8 (hnu B (by omega))).only q9 (by omega)
 have q10 := setOnly (w8.setCell ⟨F, 1, none⟩ (.slice (some ⟨g, 0, none⟩) (fs.length + 1) cap)) B 1 (.int .i64 nx)
 have q : Only (fun j => own (.slice ka kn kc) j ∨ j = F ∨ j = B) wk ((w8.setCell ⟨F, 1, none⟩ (.slice (some ⟨g, 0, none⟩) (fs.length + 1) cap)).setCell ⟨B, 1, none⟩ (.int .i64 nx)) :=
   ((o8.mono fun j _ hj => .inl hj).then (q9.mono fun j _ hj => .inr (.inl hj))).then (q10.mono fun j _ hj => .inr (.inr hj))
 have hq : ∀ j, j < H → j ≠ F → j ≠ B → ¬ (own (.slice ka kn kc) j ∨ j = F ∨ j = B) := fun j hj e1 e2 hx => by
   rcases hx with hx | hx | hx
   · exact hnu j hj hx
   · exact e1 hx
   · exact e2 hx
 have slk : Sl wk v l := h.sl.offR hk.on hap
 have sl10 : Sl ((w8.setCell ⟨F, 1, none⟩ (.slice (some ⟨g, 0, none⟩) (fs.length + 1) cap)).setCell ⟨B, 1, none⟩ (.int .i64 nx)) v l := by
   obtain ⟨a, nn, c, rfl⟩ := slk.lit
   exact slk.onlyB q (fun a' e => by
     subst e
     have := h7 _ _ _ rfl
     exact hq _ (by omega) (by omega) (by omega))
 have hown : own (.slice (some ⟨g, 0, none⟩) (fs.length + 1) cap) = fun j => j = g := by funext j; simp [own, Value.ownBlock, eq_comm]
 have hg8 : own (.slice ka kn kc) g ∨ wk.heap.size ≤ g := r8.2 g (by simp [Value.ownBlock])
 have hgH : H ≤ g := hg8.elim (g2 g) (fun e => by omega)
 have rm : RowF w8 (own (.slice (some ⟨g, 0, none⟩) (fs.length + 1) cap)) (.slice (some ⟨g, 0, none⟩) (fs.length + 1) cap) (fs ++ [f]) := by
   have := Row.min r8
   unfold RowF
   rw [show (fs ++ [f]).length = fs.length + 1 by simp] at this ⊢
   exact this
 have r10 : RowF ((w8.setCell ⟨F, 1, none⟩ (.slice (some ⟨g, 0, none⟩) (fs.length + 1) cap)).setCell ⟨B, 1, none⟩ (.int .i64 nx)) (own (.slice (some ⟨g, 0, none⟩) (fs.length + 1) cap)) (.slice (some ⟨g, 0, none⟩) (fs.length + 1) cap) (fs ++ [f]) :=
   Row.kept (Row.kept rm q9 (fun j hj hx => by rw [hown] at hj; omega)) q10 (fun j hj hx => by rw [hown] at hj; omega)
 refine ⟨sl10, (h.zl.only hk.on (by omega)).only q (hq Z (by omega) (by omega) (by omega)), (h.tl.only hk.on (by omega)).only q (hq T (by omega) (by omega) (by omega)), (h.on.then hk.on).trans (q.mono fun j _ hj => .inr ?_), Nat.le_trans hsz (Nat.le_trans hsk q.size), fl9.only q10 (by omega), r10, fun j hj => by rw [hown] at hj; omega, ?_⟩
 · rcases hj with hx | hx | hx
   · have := g2 j hx; omega
   · omega
   · omega
 · have he := hk.e
   cases o with
   | error z =>
     obtain ⟨e0, n', e1⟩ := he
     exact ⟨e0, n', e1.only q (hq R (by omega) (by omega) (by omega))⟩
   | ok r =>
     obtain ⟨e0, e1, e2, e3⟩ := he
     obtain ⟨hb1, hb2⟩ := hb r rfl
     subst e0
     obtain ⟨p1, p2, p3, p4⟩ := k2
     simp only [Ix.to] at p1 p2 p3 p4 k4
     have b10 := b9.set r.nx
     have hkl : KeepL (fun j => (Bs j ∨ news wr wk j) ∧ ¬ own (.slice ka kn kc) j) wk (fs ++ [f]) (acc ++ [(r.a, r.k)]) :=
       KeepL.snoc (e1.wide (fun j hj => ⟨.inr hj, fun hu => by have := hrl j hu; have := hj.1; omega⟩)) ((k5.next (w' := wk) (fun j hj => hk.on.block j (k6 j hj).2.1 (by have := (k6 j hj).1; omega))).wide (fun j hj => ⟨.inl hj, (k6 j hj).2.2⟩))
     have hlo : ∀ j, (Bs j ∨ news wr wk j) → H ≤ j ∧ j < wk.heap.size := fun j hj => by
       rcases hj with hj | hj
       · exact ⟨(k6 j hj).1, Nat.lt_of_lt_of_le (k6 j hj).2.1 hsk⟩
       · exact ⟨by have := hj.1; omega, hj.2⟩
     refine ⟨e2.only q (hq R (by omega) (by omega) (by omega)), b10, ⟨by show x.at_ + 2 ≤ x.t.fro; omega, by show x.t.fro ≤ r.nx; omega, by show r.nx ≤ x.t.til; omega, by show x.t.til ≤ l.length; omega⟩, e3, by show (acc ++ [(r.a, r.k)]).length + x.t.fro ≤ r.nx; simp; omega, fun j => (Bs j ∨ news wr wk j) ∧ ¬ own (.slice ka kn kc) j, hkl.next (fun j hj => q.block j (hlo j hj.1).2 ?_), fun j hj => ⟨(hlo j hj.1).1, Nat.lt_of_lt_of_le (hlo j hj.1).2 q.size, fun hu => ?_⟩⟩
     · have := (hlo j hj.1).1
       rintro (hx | hx | hx)
       · exact hj.2 hx
       · omega
       · omega
     · rw [hown] at hu
       have := (hlo j hj.1).2
       rcases hg8 with hx | hx
       · exact hj.2 (hu ▸ hx)
       · omega
theorem KD.fin {n p til : Nat} {acc : List (OwnF × FT)} (h : KD w wr B R Z F T H v l x k (.ok (n, p, acc)) ka kn kc fs) (hk : -128 ≤ k ∧ k ≤ 127) : DFin wr H R v (f9K k ka kn kc) til (.ok ⟨ownK k, toFT acc, til, p⟩) := by
 obtain ⟨k0, k1, k2, k3, k4, Bs, k5, k6⟩ := h.ko
 refine ⟨rfl, ?_, k0, k3⟩
 intro W hW
 refine ⟨⟨rfl, rfl, rfl, rfl, rfl, rfl, rfl, ⟨Nat.zero_le _, Nat.zero_le _, Nat.zero_le _, Nat.zero_le _, Nat.zero_le _⟩, ssl_nil rfl (Nat.zero_le _), (fun s hs => by cases hs), hk⟩, ?_⟩
 have hrl := fun j hj => Row.lt h.row (k := j) hj
 have := RowF.kids (Row.alike h.row (fun g hg => hW g ⟨h.up g hg, hrl g hg⟩)) (k5.next (fun g hg => hW g ⟨(k6 g hg).1, (k6 g hg).2.1⟩))
 rw [← toFT_len] at this
 exact this
theorem KD.finE {q : Nat × Int} {nx : Int} (h : KD w wr B R Z F T H v l x k (.error q) ka kn kc fs) : DFin wr H R v (f9K k ka kn kc) nx (.error q) := h.ko
end
end Go.Proofs.YthjgfpkmfmoheaaGreatDoor

/-
 The document's own reader of packets: kids, plain; what stands while they are read, the rest.
-/
namespace Go.Proofs.YthjgfpkmfmoheaaGreatDoor
open Go.RowKit Go.Shelf

def kidD (k : Int) (til : Nat) (Q : Rs (List (OwnF × FT) × Nat)) : Rs PR := bindR Q fun r => .ok ⟨ownK k, toFT r.1, til, r.2⟩
def KIa (K : KF) (x : Ix) (QF : Rs (List (OwnF × FT) × Nat)) (O : KOut) (q : Nat) : Prop := match O with
 | .error e => QF = .error e
 | .ok r => QF = kidsA K q (x.to r.1) r.2.1 r.2.2 ∧ x.t.til - r.1 < q
def KIo (K : KF) (l : List UInt8) (x : Ix) (QF : Rs (List (OwnF × FT) × Nat)) (O : KOut) (q : Nat) : Prop := match O with
 | .error e => QF = .error e
 | .ok r => x.t.til - r.1 < q ∧ ((r.2.2 = [] ∧ r.1 < x.t.til ∧ QF = bindR (K r.1 x.t.til r.2.1) fun r => bindR (endR l (x.to r.nx)) fun _ => .ok ([(r.a, r.k)], r.p)) ∨ ∃ ak, r.2.2 = [ak] ∧ QF = bindR (endR l (x.to r.1)) fun _ => .ok ([ak], r.2.1))
theorem kia_begin {K : KF} {x : Ix} {p : Nat} (h : x.next = x.t.fro) (hlt : x.t.fro < x.t.til) : KIa K x (kidsR K x p) (.ok (x.t.fro, p, [])) (x.t.til + 2) := by
 refine ⟨?_, by show _ < _; omega⟩
 have e : x.to x.t.fro = x := by rw [← h]; rfl
 have hl : x.left = true := by unfold Ix.left; rw [h]; exact decide_eq_true hlt
 show _ = kidsA K (x.t.til + 2) (x.to x.t.fro) p []
 rw [e, kidsA, hl, if_pos rfl]
 unfold kidsR kidR needR
 rw [hl, if_pos rfl]
 show bindR (K x.next x.t.til p) _ = _
 cases K x.next x.t.til p <;> rfl
theorem kia_none {K : KF} {x : Ix} {p q : Nat} (h : x.next = x.t.fro) (hlt : ¬ x.t.fro < x.t.til) : KIa K x (kidsR K x p) (.error (90, (x.at_ : Int))) q := by
 have hl : x.left = false := by unfold Ix.left; rw [h]; exact decide_eq_false hlt
 show kidsR K x p = _
 unfold kidsR kidR needR
 rw [hl]
 rfl
theorem kia_stop {K : KF} {x : Ix} {QF : Rs (List (OwnF × FT) × Nat)} {n p q : Nat} {acc : List (OwnF × FT)} (h : KIa K x QF (.ok (n, p, acc)) q) (hlt : ¬ n < x.t.til) : QF = .ok (acc, p) := by
 obtain ⟨h1, h2⟩ := h
 simp only at h1 h2
 obtain ⟨g, rfl⟩ : ∃ g, q = g + 1 := ⟨q - 1, by omega⟩
 rw [h1, kidsA, show (x.to n).left = false by unfold Ix.left Ix.to; exact decide_eq_false hlt]
 rfl
theorem kia_step {l : List UInt8} {f : Nat} {x : Ix} {QF : Rs (List (OwnF × FT) × Nat)} {n p g : Nat} {acc : List (OwnF × FT)} (h : KIa (pathR l f) x QF (.ok (n, p, acc)) (g + 1)) (hlt : n < x.t.til) : KIa (pathR l f) x QF (kidO (pathR l f n x.t.til p) acc) g := by
 obtain ⟨h1, h2⟩ := h
 simp only at h1 h2
 rw [kidsA, show (x.to n).left = true by unfold Ix.left Ix.to; exact decide_eq_true hlt, if_pos rfl] at h1
 cases ho : pathR l f n x.t.til p with
 | error e =>
   rw [show pathR l f (x.to n).next (x.to n).t.til p = .error e from ho] at h1
   exact h1
 | ok r =>
   rw [show pathR l f (x.to n).next (x.to n).t.til p = .ok r from ho] at h1
   have := pathR_ok ho
   exact ⟨h1, by show x.t.til - r.nx < g; omega⟩
theorem kio_begin {K : KF} {l : List UInt8} {x : Ix} {p : Nat} (h : x.next = x.t.fro) (hlt : x.t.fro < x.t.til) : KIo K l x (onlyR K l x p) (.ok (x.t.fro, p, [])) (x.t.til + 2) := by
 refine ⟨by show _ < _; omega, .inl ⟨rfl, hlt, ?_⟩⟩
 have hl : x.left = true := by unfold Ix.left; rw [h]; exact decide_eq_true hlt
 unfold onlyR kidR needR
 rw [hl, if_pos rfl]
 show bindR (bindR (.ok ()) fun _ => K x.next x.t.til p) _ = _
 rw [h]
 rfl
theorem kio_none {K : KF} {l : List UInt8} {x : Ix} {p q : Nat} (h : x.next = x.t.fro) (hlt : ¬ x.t.fro < x.t.til) : KIo K l x (onlyR K l x p) (.error (90, (x.at_ : Int))) q := by
 have hl : x.left = false := by unfold Ix.left; rw [h]; exact decide_eq_false hlt
 show onlyR K l x p = _
 unfold onlyR kidR needR
 rw [hl]
 rfl
theorem kio_stop {K : KF} {l : List UInt8} {x : Ix} {QF : Rs (List (OwnF × FT) × Nat)} {n p q : Nat} {acc : List (OwnF × FT)} (h : KIo K l x QF (.ok (n, p, acc)) q) (hlt : ¬ n < x.t.til) : QF = .ok (acc, p) := by
 obtain ⟨h2, ⟨-, h3, -⟩ | ⟨ak, h3, h4⟩⟩ := h
 · exact absurd h3 hlt
 · simp only at h3 h4
   rw [h4, h3]
   unfold endR
   rw [show (x.to n).left = false by unfold Ix.left Ix.to; exact decide_eq_false hlt]
   rfl
theorem kio_step {l : List UInt8} {f : Nat} {x : Ix} {QF : Rs (List (OwnF × FT) × Nat)} {n p g : Nat} (h : KIo (pathR l f) l x QF (.ok (n, p, [])) (g + 1)) : KIo (pathR l f) l x QF (kidO (pathR l f n x.t.til p) []) g := by
 obtain ⟨h2, ⟨-, h3, h4⟩ | ⟨ak, h3, h4⟩⟩ := h
 · simp only at h3 h4 h2
   cases ho : pathR l f n x.t.til p with
   | error e => rw [ho] at h4; exact h4
   | ok r =>
     rw [ho] at h4
     have := pathR_ok ho
     exact ⟨by show x.t.til - r.nx < g; omega, .inr ⟨_, rfl, h4⟩⟩
 · cases h3
theorem kio_over {l : List UInt8} {K : KF} {x : Ix} {QF : Rs (List (OwnF × FT) × Nat)} {n p q : Nat} {ak : OwnF × FT} (h : KIo K l x QF (.ok (n, p, [ak])) q) (hlt : n < x.t.til) : ∃ e, overO l x (.ok n) = .error e ∧ QF = .error e := by
 obtain ⟨h2, ⟨h3, -, -⟩ | ⟨ak', h3, h4⟩⟩ := h
 · cases h3
 · simp only at h4
   have hl : (x.to n).left = true := by unfold Ix.left Ix.to; exact decide_eq_true hlt
   unfold endR at h4
   rw [hl, if_pos rfl] at h4
   unfold overO
   simp only [bindR]
   unfold endR
   rw [hl, if_pos rfl]
   cases hi : itemR l (x.to n).next (x.to n).t.til with
   | error e => rw [hi] at h4; exact ⟨e, rfl, h4⟩
   | ok y => rw [hi] at h4; exact ⟨_, rfl, h4⟩
theorem kid_bound {l : List UInt8} {f n til p : Nat} {r : PR} (h : pathR l f n til p = .ok r) : n + 2 ≤ r.nx ∧ r.nx ≤ til := by
 have := pathR_ok h
 omega
theorem DEnd.base {w w3 w' : World} {R : Nat} {v : Value} {f : F9} {nx : Int} {o : Rs PR} (h : DEnd w3 w' R v f nx o) (hs : w.heap.size ≤ w3.heap.size) : DEnd w w' R v f nx o := by
 cases o with
 | error q => exact h
 | ok r => exact ⟨h.1, h.2.1.wide (fun g hg => ⟨Nat.le_trans hs hg.1, hg.2⟩), h.2.2⟩
section
variable {w wr w' : World} {B R Z F T H : Nat} {v : Value} {l : List UInt8} {x : Ix} {k : Int} {O : KOut} {ka : Option Addr} {kn kc : Nat} {fs : List F9}
theorem KD.knL (h : KD w wr B R Z F T H v l x k O ka kn kc fs) : kn = fs.length := by
 rcases h.row.1.2 with ⟨e, h1⟩ | ⟨g', c', cur, e, h2, h3, -⟩
 · simp only [Value.slice.injEq] at e; omega
 · simp only [Value.slice.injEq] at e; omega
theorem KD.over {n p : Nat} {acc : List (OwnF × FT)} {e : Nat × Int} (h : KD w wr B R Z F T H v l x k (.ok (n, p, acc)) ka kn kc fs) (hh : GH w B R Z F T H v) (hap : ∀ a n c, v = .slice (some a) n c → a.block ≠ R) (o : Only (fun g => g = R ∨ g = B) wr w') (d : DO w' B R v l p x (.error e : Rs Nat) id) : KD w w' B R Z F T H v l x k (.error e) ka kn kc fs := by
 obtain ⟨h1, h2, h3, h4, h5, h6, h7⟩ := hh
 refine ⟨?_, h.zl.only o (by omega), h.tl.only o (by omega), h.on.trans (o.mono fun g _ hg => hg.elim .inl (fun e => .inr (by omega))), Nat.le_trans h.hs o.size, h.fl.only o (by omega), Row.kept h.row o (fun g hg => by have := h.up g hg; omega), h.up, d.1, p, d.2.1⟩
 obtain ⟨a, nn, c, rfl⟩ := h.sl.lit
 exact h.sl.onlyB o (fun a' e => by
   subst e
   have := h7 _ _ _ rfl
   have := hap _ _ _ rfl
   omega)
theorem KD.dc {n p : Nat} {acc : List (OwnF × FT)} (h : KD w wr B R Z F T H v l x k (.ok (n, p, acc)) ka kn kc fs) (hh : GH w B R Z F T H v) (hap : ∀ a n c, v = .slice (some a) n c → a.block ≠ R) (hl : l.length < 36028797018963968) (hw : x.t.til - x.t.fro ≤ 1048576) : DC wr B R v l x ∧ DO wr B R v l p x (.ok n : Rs Nat) id := by
 obtain ⟨h1, h2, h3, h4, h5, h6, h7⟩ := hh
 obtain ⟨k0, k1, k2, -⟩ := h.ko
 refine ⟨⟨h.sl, hl, hw, by omega, fun a n c e => ⟨by have := h7 a n c e; omega, hap a n c e⟩⟩, k0, k1, k2⟩
theorem KD.len {n p : Nat} {acc : List (OwnF × FT)} (h : KD w wr B R Z F T H v l x k (.ok (n, p, acc)) ka kn kc fs) : fs.length = acc.length := by
 obtain ⟨-, -, -, -, -, Bs, k5, -⟩ := h.ko
 exact k5.len
theorem kk_fl {wk : World} {K : Nat} {f : F9} {nx : Int} {o : Rs PR} (h : KK wr wk K R v f nx o) : FlT wk K f := h.fl
end
end Go.Proofs.YthjgfpkmfmoheaaGreatDoor
