/-
  strings.SplitSeq at a dot; isOid.
-/
import Derived.Test.YtfiijlmpfpmgiaaGreatDoorPhoneToSrange
import Derived.Test.YtfiijlmpfpmgiaaGreatDoorXrowToXapp
namespace Go.Proofs.YtfiijlmpfpmgiaaGreatDoor
open Go.RowKit Go.Shelf
attribute [local go_sem] Oper.semAt_some

/-- numbers with dots between them: there is a dot -/
def soidB (l : List UInt8) : Bool := l.contains 46 && (splitD l).all snumB
def leftIn (Bs : Nat) (w : World) : Nat := match w.cell? ⟨Bs, 0, none⟩ with | some (.string c) => c.size | _ => 0
theorem leftIn_eq {Bs : Nat} {w : World} {c : ByteArray} (h : Boxed w Bs 9 (.string c)) : leftIn Bs w = c.size := by unfold leftIn; rw [h.cell]
theorem bkeeps {B : Nat → Prop} {W W' : World} {k : Nat} {t : TypeId} {v : Value} (h : Boxed W k t v) (hk : Keeps B W W') (hB : B k) : Boxed W' k t v := (hk k hB).trans h
theorem bext {W W' : World} {k : Nat} {t : TypeId} {v : Value} (h : Boxed W k t v) (hk : Ext W W') : Boxed W' k t v := (hk.block k h.lt).trans h
theorem bother {W : World} {k j : Nat} {t : TypeId} {v : Value} (h : Boxed W k t v) (hkj : k ≠ j) (u : Value) : Boxed (W.setCell ⟨j, 0, none⟩ u) k t v := (Below.heap_setCell _ _ _ _ hkj).trans h

/-- a text cut at its first dot -/
theorem cut_dot (c : ByteArray) (o : Nat) (h : Lib.indexByte (byt c) 46 = (o : Int)) : o < c.size ∧ splitD (byt c) = byt (c.extract 0 o) :: splitD (byt (c.extract (o + 1) c.size)) := by
  obtain ⟨h1, h2⟩ := Lib.indexByte_some h
  have hol : o < (byt c).length := (List.getElem?_eq_some_iff.1 h1).1
  have hsp : byt c = (byt c).take o ++ 46 :: (byt c).drop (o + 1) := by
    have hg : (byt c)[o] = 46 := (List.getElem?_eq_some_iff.1 h1).2
    rw [← hg, List.getElem_cons_drop, List.take_append_drop]
  have hno : (46 : UInt8) ∉ (byt c).take o := by
    intro e
    obtain ⟨i, hi, he⟩ := List.getElem_of_mem e
    have hi' : i < o := by rw [List.length_take] at hi; omega
    refine h2 i hi' ?_
    rw [List.getElem_take] at he
    rw [List.getElem?_eq_getElem (by omega), he]
  refine ⟨by rw [← byt_length]; exact hol, ?_⟩
  rw [byt_extract, byt_from, List.drop_zero, Nat.sub_zero]
  conv => lhs; rw [hsp]
  rw [splitD_app _ _ hno]
theorem no_dot (c : ByteArray) (h : Lib.indexByte (byt c) 46 = -1) : splitD (byt c) = [byt c] := by
  refine splitD_none _ ?_
  intro e
  obtain ⟨i, hi, he⟩ := List.getElem_of_mem e
  exact Lib.indexByte_none h i (by rw [List.getElem?_eq_getElem hi, he])

/-- a text that is not too long -/
abbrev Txt := { x : ByteArray // x.size ≤ 281474976710656 }
def tb (x : Txt) : List UInt8 := byt x.1
set_option maxRecDepth 100000 in
set_option maxHeartbeats 4000000 in
theorem split_seq (n : Nat) (hn : 1 ≤ n) (Bs : Nat) (s : ByteArray) (hs : s.size ≤ 281474976710656) (w : World) (hb1 : Boxed w Bs 9 (.string s)) (hb2 : Boxed w (Bs + 1) 9 (.string ⟨#[46]⟩)) (hb3 : Boxed w (Bs + 2) 3 (.int .i64 0)) :
    BoxSeq n Tryz.prog 202 #[.pointer (some ⟨Bs + 1, 0, none⟩), .pointer (some ⟨Bs, 0, none⟩), .pointer (some ⟨Bs + 2, 0, none⟩)] (fun x : Txt => #[.string x.1]) (fun k => k = Bs ∨ k = Bs + 1 ∨ k = Bs + 2) Bs
      (fun xs => xs.map tb = splitD (byt s)) (fun pre => ∃ r, pre.map tb ++ r = splitD (byt s)) w := by
  intro l J Jx W hW hJs hY h0
  have b1 : Boxed W Bs 9 (.string s) := bext hb1 hW
  have b2 : Boxed W (Bs + 1) 9 (.string ⟨#[46]⟩) := bext hb2 hW
  have b3 : Boxed W (Bs + 2) 3 (.int .i64 0) := bext hb3 hW
  have c2 := b2.cell
  clear hb1 hb2 hb3 hW
  refine callsIn_of_wp Tryz.func202 rfl trivial ?_ rfl
  simp only [Tryz.ntmps202, List.size_toArray, List.length_cons, List.length_nil, Nat.reduceAdd, Nat.reduceSub, Array.replicate_succ, Array.replicate_zero, List.push_toArray, List.append_toArray, List.nil_append, List.cons_append]
  gi_wp2
  gi_loopw [7, 8] (fun _ _ wr => ∃ (pre : List Txt) (cur : ByteArray), Boxed wr Bs 9 (.string cur) ∧ Boxed wr (Bs + 1) 9 (.string ⟨#[46]⟩) ∧ Boxed wr (Bs + 2) 3 (.int .i64 0) ∧ cur.size ≤ 281474976710656 ∧ Hid (pre.map tb ++ splitD (byt cur) = splitD (byt s)) ∧ J pre wr)
    (fun _ _ wr => leftIn Bs wr)
  case atStart => exact ⟨[], s, b1, b2, b3, hs, rfl, h0⟩
  case round =>
    obtain ⟨pre, cur, k1, k2, k3, hcs, hpre, hJp⟩ := hrel
    have c1 := k1.cell
    have f1 := k1.frozen
    have c2 := k2.cell
    have c3 := k3.cell
    have hx := fun w => Index_dot w cur
    rw [idx_dot] at hx
    rcases (show Lib.indexByte (byt cur) 46 = -1 ∨ 0 ≤ Lib.indexByte (byt cur) 46 by have := Lib.indexByte_ge (byt cur) 46; omega) with hi | hi
    · rw [hi] at hx
      have hlast := no_dot cur hi
      obtain ⟨fn, tmps, assign, body, hy, hR⟩ := hY pre ⟨cur, hcs⟩ wr hJp
      have hend : Hid ((pre ++ [(⟨cur, hcs⟩ : Txt)]).map tb = splitD (byt s)) := by show _ = _; rw [← hpre.out, hlast]; simp [tb]
      clear hY hi hlast
      dsimp only at hy
      gi_wp2_with (refine ⟨trivial, ?_⟩; gi_at_call 174; refine (callsIn_wide.2 (hx _)).mono ?_; rintro e w2 ⟨rfl, rfl⟩)
      gi_wp2
      refine hR.mono ?_
      rintro e W3 (⟨rfl, hJ3, hk3⟩ | ⟨rfl, hJx3⟩)
      · gi_wp2
        go_end0
        exact ⟨⟨_, rfl⟩, .inl ⟨_, hend.out, hJ3⟩⟩
      · gi_wp2
        go_end0
        exact ⟨⟨_, rfl⟩, .inr ⟨_, ⟨[], by rw [List.append_nil]; exact hend.out⟩, hJx3⟩⟩
    · obtain ⟨o, ho⟩ : ∃ o : Nat, Lib.indexByte (byt cur) 46 = o := ⟨(Lib.indexByte (byt cur) 46).toNat, by omega⟩
      rw [ho] at hx
      obtain ⟨hoc, hcut⟩ := cut_dot cur o ho
      have hex : (cur.extract 0 o).size ≤ 281474976710656 := by simp; omega
      obtain ⟨fn, tmps, assign, body, hy, hR⟩ := hY pre ⟨cur.extract 0 o, hex⟩ wr hJp
      have hnext : Hid ((pre ++ [(⟨cur.extract 0 o, hex⟩ : Txt)]).map tb ++ splitD (byt (cur.extract (o + 1) cur.size)) = splitD (byt s)) := by show _ = _; rw [← hpre.out, hcut]; simp [tb]
      have hsz : (cur.extract (o + 1) cur.size).size = cur.size - (o + 1) := by simp
      clear hY hi ho hcut
      dsimp only at hy
      gi_wp2_with (refine ⟨trivial, ?_⟩; gi_at_call 174; refine (callsIn_wide.2 (hx _)).mono ?_; rintro e w2 ⟨rfl, rfl⟩)
      refine hR.mono ?_
      rintro e W3 (⟨rfl, hJ3, hk3⟩ | ⟨rfl, hJx3⟩)
      · have m1 := bkeeps k1 hk3 (.inl rfl)
        have m2 := bkeeps k2 hk3 (.inr (.inl rfl))
        have m3 := bkeeps k3 hk3 (.inr (.inr rfl))
        have d1 := m1.cell
        have g1 := m1.frozen
        have d2 := m2.cell
        gi_wp2
        go_roundw
        case rel => exact ⟨_, cur.extract (o + 1) cur.size, m1.set _, bother m2 (by omega) _, bother m3 (by omega) _, by rw [hsz]; omega, hnext, hJs _ _ _ hJ3⟩
        case measure => rw [leftIn_eq (m1.set (.string (cur.extract (o + 1) cur.size))), leftIn_eq k1, hsz]; omega
      · gi_wp2
        refine bodyPost_ret (results_none rfl _ _ _) rfl ?_
        exact ⟨⟨_, rfl⟩, .inr ⟨_, ⟨_, hnext.out⟩, hJx3⟩⟩

set_option maxRecDepth 100000 in
set_option maxHeartbeats 1000000 in
theorem SplitSeq_any (w : World) (s sep : ByteArray) :
    Calls Tryz.prog 150 #[.string s, .string sep] w fun e w' => e = .returned (.func (.func 202) #[] #[.pointer (some ⟨w.heap.size + 1, 0, none⟩), .pointer (some ⟨w.heap.size, 0, none⟩), .pointer (some ⟨w.heap.size + 2, 0, none⟩)]) ∧
      w' = ((w.alloc (.cells #[.string s] 9)).alloc (.cells #[.string sep] 9)).alloc (.cells #[.int .i64 0] 3) := by
  have h1 : Calls Tryz.prog 175 #[.string s, .string sep, .int .i64 0] w fun e w' => e = .returned (.func (.func 202) #[] #[.pointer (some ⟨w.heap.size + 1, 0, none⟩), .pointer (some ⟨w.heap.size, 0, none⟩), .pointer (some ⟨w.heap.size + 2, 0, none⟩)]) ∧
      w' = ((w.alloc (.cells #[.string s] 9)).alloc (.cells #[.string sep] 9)).alloc (.cells #[.int .i64 0] 3) := by
    go_enter Tryz.func175, Tryz.ntmps175
    go_wp2
    go_ret
    exact ⟨rfl, rfl⟩
  go_enter Tryz.func150, Tryz.ntmps150
  go_wp2_with (go_at_call 175; refine h1.mono ?_; rintro e w2 ⟨rfl, rfl⟩)
  go_ret
  exact ⟨rfl, rfl⟩

set_option maxRecDepth 100000 in
set_option maxHeartbeats 1000000 in
theorem Contains_dot (w : World) (s : ByteArray) :
    Calls Tryz.prog 149 #[.string s, .string ⟨#[46]⟩] w fun e w' => e = .returned (.bool ((byt s).contains 46)) ∧ w' = w := by
  have hx := fun w => Index_dot w s
  rw [idx_dot] at hx
  have hge := Lib.indexByte_ge (byt s) 46
  have HB : Hid (((byt s).contains 46) = decide (0 ≤ Lib.indexByte (byt s) 46)) := by
    show _ = _
    by_cases h : Lib.indexByte (byt s) 46 = -1
    · rw [h]
      have : (46 : UInt8) ∉ byt s := fun e => by
        obtain ⟨i, hi, he⟩ := List.getElem_of_mem e
        exact Lib.indexByte_none h i (by rw [List.getElem?_eq_getElem hi, he])
      simpa using this
    · obtain ⟨o, ho⟩ : ∃ o : Nat, Lib.indexByte (byt s) 46 = o := ⟨(Lib.indexByte (byt s) 46).toNat, by omega⟩
      have hm : (46 : UInt8) ∈ byt s := List.mem_of_getElem? (Lib.indexByte_some ho).1
      rw [ho]; simpa using hm
  generalize Lib.indexByte (byt s) 46 = z at *
  rcases (show z < 0 ∨ 0 ≤ z by omega) with h | h
  · have HB' : Hid (((byt s).contains 46) = false) := by show _ = _; rw [HB.out]; simpa using h
    clear HB
    go_enter Tryz.func149, Tryz.ntmps149
    go_wp2_with (go_at_call 174; refine (hx _).mono ?_; rintro e w2 ⟨rfl, rfl⟩)
    go_ret
    exact ⟨ret_b (by rw [HB'.out]; simpa using h), rfl⟩
  · have HB' : Hid (((byt s).contains 46) = true) := by show _ = _; rw [HB.out]; simpa using h
    clear HB
    go_enter Tryz.func149, Tryz.ntmps149
    go_wp2_with (go_at_call 174; refine (hx _).mono ?_; rintro e w2 ⟨rfl, rfl⟩)
    go_ret
    exact ⟨ret_b HB'.out.symm, rfl⟩
end Go.Proofs.YtfiijlmpfpmgiaaGreatDoor

/-
  isOid, whatever the text.
-/
namespace Go.Proofs.YtfiijlmpfpmgiaaGreatDoor
open Go.RowKit Go.Shelf
attribute [local go_sem] Oper.semAt_some

theorem results_box {P : Program} {fn : Func} {p : Tmp} {ty : TypeId} (h : fn.results = #[.cell p ty]) (tmps : Array Value) (w : World) (g : Nat) (v : Value) (d : TypeDesc) (hp : tmps.getD p undef = .pointer (some ⟨g, 0, none⟩))
    (hc : w.cell? ⟨g, 0, none⟩ = some v) (hu : P.underlying ty = some d) (hd : (match d with | .struct _ | .array _ _ => true | _ => false) = false) : (results fn tmps).run P w = .ok v w := by
  have hp' : tmps[p]?.getD undef = .pointer (some ⟨g, 0, none⟩) := by simpa using hp
  have hagg : (isAgg ty).run P w = .ok false w := by
    unfold isAgg
    rw [Sem.run_bind, run_underlying hu w]
    cases d <;> simp_all
  simp [results, h, hp', asAddr, loadVar, Sem.run_bind, hagg, hc]
theorem Only.extB {S : Nat → Prop} {w W W' : World} (h : Ext w W) (k : Only S W W') (hS : ∀ g, S g → w.heap.size ≤ g) : Ext w W' := h.then k hS
theorem only_boxed {S : Nat → Prop} {W W' : World} {k : Nat} {t : TypeId} {v : Value} (h : Boxed W k t v) (ho : Only S W W') (hn : ¬ S k) : Boxed W' k t v := (ho.block k h.lt hn).trans h

set_option maxRecDepth 100000 in
set_option maxHeartbeats 4000000 in
theorem isOid_any (w : World) (s : ByteArray) (hs : s.size ≤ 281474976710656) :
    Calls Tryz.prog 117 #[.string s] w fun e w' => e = .returned (.bool (soidB (byt s))) ∧ Ext w w' := by
  have hc := fun w => Contains_dot w s
  have hsq := fun w => SplitSeq_any w s ⟨#[46]⟩
  have hse := fun Bs w h1 h2 h3 => split_seq 4 (by omega) Bs s hs w h1 h2 h3
  have hnum := fun (x : ByteArray) (hx : x.size ≤ 281474976710656) w => isNumberS_any w x hx
  refine (callsIn_wide (n := 5)).1 ?_
  refine callsIn_of_wp_marks Tryz.func117 rfl trivial ?_ rfl
  simp only [Tryz.ntmps117, List.size_toArray, List.length_cons, List.length_nil, Nat.reduceAdd, Nat.reduceSub, Array.replicate_succ, Array.replicate_zero, List.push_toArray, List.append_toArray, List.nil_append, List.cons_append]
  cases hd : (byt s).contains 46 with
  | false =>
    rw [hd] at hc
    have HB : Hid (soidB (byt s) = false) := by show _ = _; rw [soidB, hd]; rfl
    clear hd
    gi_wp2_with (refine ⟨trivial, ?_⟩; gi_at_call 149; refine (callsIn_wide.2 (hc _)).mono ?_; rintro e w2 ⟨rfl, rfl⟩)
    exact ⟨_, results_box rfl _ _ w.heap.size (.bool false) _ rfl (Boxed.new w _ _).cell rfl rfl, ret_b HB.out.symm, (Ext.refl w).alloc _⟩
  | true =>
    rw [hd] at hc
    have HB : Hid (soidB (byt s) = (splitD (byt s)).all snumB) := by show _ = _; rw [soidB, hd]; rfl
    clear hd
    gi_wp2_with (first
      | (refine ⟨trivial, ?_⟩; gi_at_call 149; refine (callsIn_wide.2 (hc _)).mono ?_; rintro e w2 ⟨rfl, rfl⟩)
      | (refine ⟨trivial, ?_⟩; gi_at_call 150; refine (callsIn_wide.2 (hsq _)).mono ?_; rintro e w2 ⟨rfl, rfl⟩))
    have nb0 : Boxed (w.alloc (.cells #[.bool false] 4)) w.heap.size 4 (.bool false) := Boxed.new w _ _
    generalize hwa : w.alloc (.cells #[.bool false] 4) = wa at nb0 ⊢
    have hza : wa.heap.size = w.heap.size + 1 := by rw [← hwa]; simp
    have xa : Ext w wa := by rw [← hwa]; exact (Ext.refl w).alloc _
    rw [← hza]
    have nb1 := ((Boxed.new wa 9 (.string s)).alloc (.cells #[.string ⟨#[46]⟩] 9)).alloc (.cells #[.int .i64 0] 3)
    have nb2 := (Boxed.new (wa.alloc (.cells #[.string s] 9)) 9 (.string ⟨#[46]⟩)).alloc (.cells #[.int .i64 0] 3)
    have nb3 := Boxed.new ((wa.alloc (.cells #[.string s] 9)).alloc (.cells #[.string ⟨#[46]⟩] 9)) 3 (.int .i64 0)
    have nb0' := ((nb0.alloc (.cells #[.string s] 9)).alloc (.cells #[.string ⟨#[46]⟩] 9)).alloc (.cells #[.int .i64 0] 3)
    have xb : Ext w (((wa.alloc (.cells #[.string s] 9)).alloc (.cells #[.string ⟨#[46]⟩] 9)).alloc (.cells #[.int .i64 0] 3)) := ((xa.alloc _).alloc _).alloc _
    have hzb : (((wa.alloc (.cells #[.string s] 9)).alloc (.cells #[.string ⟨#[46]⟩] 9)).alloc (.cells #[.int .i64 0] 3)).heap.size = wa.heap.size + 3 := by simp
    simp only [World.size_alloc] at nb2 nb3
    generalize ((wa.alloc (.cells #[.string s] 9)).alloc (.cells #[.string ⟨#[46]⟩] 9)).alloc (.cells #[.int .i64 0] 3) = wb at *
    have hA : Hid (wa.heap.size = w.heap.size + 1) := hza
    have hBz : Hid (wb.heap.size = wa.heap.size + 3) := hzb
    clear hza hzb hwa
    refine wpIn_range_box (gf := 202) (lb := #[.pointer (some ⟨wa.heap.size + 1, 0, none⟩), .pointer (some ⟨wa.heap.size, 0, none⟩), .pointer (some ⟨wa.heap.size + 2, 0, none⟩)]) rfl (enters_of Tryz.func202 (by kernel_rfl) rfl)
      (hse wa.heap.size wb nb1 nb2 nb3) (fun k hk => by have := hBz.out; omega) (by have := hBz.out; omega) (fun _ => rfl)
      (fun pre W => Boxed W w.heap.size 4 (.bool false) ∧ Hid ((pre.map tb).all snumB = true) ∧ Ext w W)
      (fun pre W => Boxed W w.heap.size 4 (.bool false) ∧ Hid ((pre.map tb).all snumB = false) ∧ Ext w W)
      ?_ ?_ ⟨nb0', rfl, xb⟩ (fun x => { tmps := #[.string s, undef, .pointer (some ⟨w.heap.size, 0, none⟩), .string x.1, .string s, .bool true, .bool false, .string s, .func (.func 202) #[] #[.pointer (some ⟨wa.heap.size + 1, 0, none⟩), .pointer (some ⟨wa.heap.size, 0, none⟩), .pointer (some ⟨wa.heap.size + 2, 0, none⟩)], .string x.1, undef, undef, undef], defers := [] }) ?_ ?_ ?_ ?_
    · rintro pre W W' ⟨h1, h2, h3⟩ ho
      have a1 := hA.out; have a2 := hBz.out
      exact ⟨only_boxed h1 ho (by rintro (e | e) <;> omega), h2, h3.then ho (by rintro g (e | e) <;> omega)⟩
    · rintro pre W W' ⟨h1, h2, h3⟩ ho
      have a1 := hA.out; have a2 := hBz.out
      exact ⟨only_boxed h1 ho (by rintro (e | e) <;> omega), h2, h3.then ho (by rintro g (e | e) <;> omega)⟩
    · intro l x W K hK
      gi_wp2
      exact hK
    · rintro l pre x W ⟨h1, h2, h3⟩
      have c1 := h1.cell
      have f1 := h1.frozen
      have hn := hnum x.1 x.2
      cases hx : snumB (byt x.1) with
      | true =>
        rw [hx] at hn
        have hg : Hid (((pre ++ [x]).map tb).all snumB = true) := by show _ = _; rw [List.map_append, List.all_append, h2.out]; simp [tb, hx]
        clear hx
        gi_wp2_with (refine ⟨trivial, ?_⟩; gi_at_call 151; refine (CallsIn.inRound l (callsIn_wide.2 (hn _))).mono ?_; rintro e w2 ⟨rfl, rfl⟩)
        exact ⟨Firm.refl _ _, Keeps.refl _ _, h1, hg, h3⟩
      | false =>
        rw [hx] at hn
        have hg : Hid (((pre ++ [x]).map tb).all snumB = false) := by show _ = _; rw [List.map_append, List.all_append]; simp [tb, hx]
        clear hx
        gi_wp2_with (refine ⟨trivial, ?_⟩; gi_at_call 151; refine (CallsIn.inRound l (callsIn_wide.2 (hn _))).mono ?_; rintro e w2 ⟨rfl, rfl⟩)
        exact ⟨Firm.setCell _ _ _ _, h1.set _, hg, h3.setNew (Nat.le_refl _) _⟩
    · rintro D xs W hD hS ⟨h1, h2, h3⟩ hK
      have c1 := h1.cell
      have f1 := h1.frozen
      gi_wp2
      have a1 := hA.out
      have a2 := hBz.out
      have hK' : (W.setCell ⟨w.heap.size, 0, none⟩ (.bool true)).heap[D]? = some (.deferred (some [])) := by
        rw [Below.heap_setCell _ _ _ _ (by simp; omega)]; exact hK
      refine ⟨by simp, .inl ⟨_, _, rfl, run_takeDeferred hK', ?_⟩⟩
      refine ⟨_, results_box rfl _ _ w.heap.size (.bool true) _ rfl ((h1.set (.bool true)).kept (grownBy_putObj' _ D _) (by simp; omega)).cell rfl rfl, ret_b ?_, (h3.setNew (p := ⟨w.heap.size, 0, none⟩) (Nat.le_refl _) _).then (putObj_only _ D _ (S := fun k => k = D) rfl) (fun g hg => by omega)⟩
      rw [HB.out, ← hS, h2.out]
    · rintro D pre W hD hS ⟨h1, h2, h3⟩ hK
      gi_wp2
      have a1 := hA.out
      have a2 := hBz.out
      refine ⟨by simp, .inl ⟨_, _, rfl, run_takeDeferred hK, ?_⟩⟩
      refine ⟨_, results_box rfl _ _ w.heap.size (.bool false) _ rfl (h1.kept (grownBy_putObj' _ D _) (by simp; omega)).cell rfl rfl, ret_b ?_, h3.then (putObj_only _ D _ (S := fun k => k = D) rfl) (fun g hg => by omega)⟩
      obtain ⟨r, hr⟩ := hS
      rw [HB.out, ← hr, List.all_append, h2.out]; rfl
end Go.Proofs.YtfiijlmpfpmgiaaGreatDoor
