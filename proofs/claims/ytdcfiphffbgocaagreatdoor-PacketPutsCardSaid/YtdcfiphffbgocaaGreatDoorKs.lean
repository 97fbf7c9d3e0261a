/-
  The library's cutting of texts at one byte: Index, Cut, Contains, SplitSeq.
-/
import Derived.Test.YtdcfiphffbgocaaGreatDoorQK
import Derived.Test.YtdcfiphffbgocaaGreatDoorSrange
import Derived.Lib.Bytealg
import Derived.Shelf.RegionOpenPlain
import Derived.Lib.SplitLaws
import Derived.Lib.IndexBytes
namespace Go.Proofs.YtdcfiphffbgocaaGreatDoor
open Go.RowKit Go.Shelf
attribute [local go_sem] Oper.semAt_some

set_option maxRecDepth 100000 in
theorem sIndexByte (s : ByteArray) (c : Int) (w : World) : Calls Tryz.prog 153 #[.string s, .int .u8 c] w fun e w' => e = .returned (.int .i64 (Lib.indexByte s.data.toList c.toNat.toUInt8)) ∧ w' = w := by
  go_enter Tryz.func153, Tryz.ntmps153
  go_wp2
  rw [run_callFunc_extern Tryz.func160 (by kernel_rfl) (by kernel_rfl) (by kernel_rfl) (e := Extern.BytealgIndexByte.indexByte) (by kernel_rfl), Lib.run_indexByteString]
  simp only [Result.andThen]
  rw [Oper.upon_value]
  go_wp2
  go_ret
  exact ⟨rfl, rfl⟩
set_option maxRecDepth 100000 in
set_option maxHeartbeats 1000000 in
theorem slIndex_one (x : ByteArray) (c : UInt8) (w : World) :
    Calls Tryz.prog 148 #[.string x, .string ⟨#[c]⟩] w fun e w' => e = .returned (.int .i64 (Lib.indexByte (byt x) c)) ∧ w' = w := by
  have hx := fun w => sIndexByte x (c.toNat : Int) w
  have e1 : ((c.toNat : Int)).toNat.toUInt8 = c := by simp
  have e2 : x.data.toList = byt x := rfl
  rw [e1, e2] at hx
  clear e1 e2
  have hix : ∀ wx, (Instr.index 9 (.string ⟨#[c]⟩) (.int .i64 0)).run Tryz.prog wx = .ok (.int .u8 c.toNat) wx := idx_run ⟨#[c]⟩ 0 (by show 0 < 1; decide)
  have hsz : (⟨#[c]⟩ : ByteArray).size = 1 := rfl
  by_cases hq : byt x = [c]
  · have n1 : ([c] == x.toList) = true := by rw [toList_byt, hq]; simp
    have HR : Hid (Lib.indexByte (byt x) c = 0) := by show Lib.indexByte (byt x) c = 0; rw [hq]; simp [Lib.indexByte]
    clear hq hx
    go_enter Tryz.func148, Tryz.ntmps148
    go_wp2
    go_ret
    exact ⟨by rw [HR.out]; rfl, rfl⟩
  · have n1 : ([c] == x.toList) = false := by rw [toList_byt]; simp only [beq_eq_false_iff_ne, ne_eq]; exact fun e => hq e.symm
    clear hq
    go_enter Tryz.func148, Tryz.ntmps148
    go_wp2_with (go_at_call 153; refine (hx _).mono ?_; rintro e w2 ⟨rfl, rfl⟩)
    go_ret
    exact ⟨rfl, rfl⟩
theorem Index_one (x : ByteArray) (c : UInt8) (w : World) :
    Calls Tryz.prog 157 #[.string x, .string ⟨#[c]⟩] w fun e w' => e = .returned (.int .i64 (Lib.indexByte (byt x) c)) ∧ w' = w := by
  have hx := fun w => slIndex_one x c w
  go_enter Tryz.func157, Tryz.ntmps157
  go_wp2_with (go_at_call 148; refine (hx _).mono ?_; rintro e w2 ⟨rfl, rfl⟩)
  go_ret
  exact ⟨rfl, rfl⟩

/-- a text cut at its first c -/
theorem cut_at (c : UInt8) (s : ByteArray) (o : Nat) (h : Lib.indexByte (byt s) c = (o : Int)) : o < s.size ∧ splitC c (byt s) = byt (s.extract 0 o) :: splitC c (byt (s.extract (o + 1) s.size)) ∧ c ∈ byt s := by
  obtain ⟨h1, h2⟩ := Lib.indexByte_some h
  have hol : o < (byt s).length := (List.getElem?_eq_some_iff.1 h1).1
  have hsp : byt s = (byt s).take o ++ c :: (byt s).drop (o + 1) := by
    have hg : (byt s)[o] = c := (List.getElem?_eq_some_iff.1 h1).2
    rw [← hg, List.getElem_cons_drop, List.take_append_drop]
  have hno : c ∉ (byt s).take o := by
    intro e
    obtain ⟨i, hi, he⟩ := List.getElem_of_mem e
    have hi' : i < o := by rw [List.length_take] at hi; omega
    refine h2 i hi' ?_
    rw [List.getElem_take] at he
    rw [List.getElem?_eq_getElem (by omega), he]
  refine ⟨by rw [← byt_length]; exact hol, ?_, List.mem_of_getElem? h1⟩
  rw [byt_extract, byt_from, List.drop_zero, Nat.sub_zero]
  conv => lhs; rw [hsp]
  rw [splitC_app _ _ _ hno]
theorem no_at (c : UInt8) (s : ByteArray) (h : Lib.indexByte (byt s) c = -1) : splitC c (byt s) = [byt s] ∧ c ∉ byt s := by
  have hn : c ∉ byt s := by
    intro e
    obtain ⟨i, hi, he⟩ := List.getElem_of_mem e
    exact Lib.indexByte_none h i (by rw [List.getElem?_eq_getElem hi, he])
  exact ⟨splitC_none c _ hn, hn⟩
theorem at_cases (c : UInt8) (s : ByteArray) : Lib.indexByte (byt s) c = -1 ∨ ∃ o : Nat, Lib.indexByte (byt s) c = (o : Int) := by
  have h := Lib.indexByte_ge (byt s) c
  rcases (show Lib.indexByte (byt s) c = -1 ∨ 0 ≤ Lib.indexByte (byt s) c by omega) with h1 | h1
  · exact .inl h1
  · exact .inr ⟨(Lib.indexByte (byt s) c).toNat, by omega⟩

set_option maxRecDepth 100000 in
set_option maxHeartbeats 1000000 in
theorem Cut_one (s : ByteArray) (hs : s.size ≤ 281474976710656) (c : UInt8) (w : World) :
    Calls Tryz.prog 126 #[.string s, .string ⟨#[c]⟩] w fun e w' => Ext w w' ∧ ((Lib.indexByte (byt s) c = -1 ∧ e = .returned (.tuple #[.string s, .string ⟨#[]⟩, .bool false])) ∨
      ∃ o : Nat, Lib.indexByte (byt s) c = (o : Int) ∧ e = .returned (.tuple #[.string (s.extract 0 o), .string (s.extract (o + 1) s.size), .bool true])) := by
  have hx := fun w => slIndex_one s c w
  have hC : ∀ w, Calls Tryz.prog 142 #[.string s, .string ⟨#[c]⟩] w fun e w' => Ext w w' ∧ ((Lib.indexByte (byt s) c = -1 ∧ e = .returned (.tuple #[.string s, .string ⟨#[]⟩, .bool false])) ∨
      ∃ o : Nat, Lib.indexByte (byt s) c = (o : Int) ∧ e = .returned (.tuple #[.string (s.extract 0 o), .string (s.extract (o + 1) s.size), .bool true])) := by
    intro w
    have hsz : (⟨#[c]⟩ : ByteArray).size = 1 := rfl
    rcases at_cases c s with h | ⟨o, h⟩
    · rw [h] at hx
      have hh : Hid (Lib.indexByte (byt s) c = -1) := h
      clear h
      go_enter Tryz.func142, Tryz.ntmps142
      go_wp2_with (go_at_call 148; refine (hx _).mono ?_; rintro _ _ ⟨rfl, rfl⟩)
      go_ret3
      exact ⟨Ext.refl _, .inl ⟨hh.out, rfl⟩⟩
    · obtain ⟨hos, _⟩ := cut_at c s o h
      rw [h] at hx
      have hh : Hid (Lib.indexByte (byt s) c = (o : Int)) := h
      clear h
      have h1 : (o : Int) ≤ (s.size : Int) := by omega
      have h2 : (o : Int) + 1 ≤ (s.size : Int) := by omega
      go_enter Tryz.func142, Tryz.ntmps142
      go_wp2_with (go_at_call 148; refine (hx _).mono ?_; rintro _ _ ⟨rfl, rfl⟩)
      obtain ⟨q, hq⟩ : ∃ q : Nat, Hid (q = o + 1) := ⟨_, rfl⟩
      have hwq : IntKind.i64.wrap ((o : Int) + 1) = (q : Int) := by have := hq.out; rw [IntKind.wrap_i64]; omega
      have hmix : Tryz.prog.follows Departure.mixedOrders = true := by kernel_rfl
      have h3 : (q : Int) ≤ (s.size : Int) := by have := hq.out; omega
      go_region_o
      go_wp2
      go_ret3
      refine ⟨(Ext.refl _).drew, .inr ⟨o, hh.out, ?_⟩⟩
      rw [← hq.out]
      exact rfl
  go_enter Tryz.func126, Tryz.ntmps126
  go_wp2_with fail
  go_at_call 142
  refine (hC _).mono ?_
  rintro _ w2 ⟨hx2, h⟩
  rcases h with ⟨h1, rfl⟩ | ⟨o, h1, rfl⟩
  · go_wp2
    go_ret3
    exact ⟨hx2, .inl ⟨h1, rfl⟩⟩
  · go_wp2
    go_ret3
    exact ⟨hx2, .inr ⟨o, h1, rfl⟩⟩

set_option maxRecDepth 100000 in
set_option maxHeartbeats 1000000 in
theorem Contains_one (s : ByteArray) (c : UInt8) (w : World) :
    Calls Tryz.prog 151 #[.string s, .string ⟨#[c]⟩] w fun e w' => e = .returned (.bool ((byt s).contains c)) ∧ w' = w := by
  have hx := fun w => Index_one s c w
  rcases at_cases c s with h | ⟨o, h⟩
  · have HB : Hid (((byt s).contains c) = false) := by show _ = _; simpa using (no_at c s h).2
    rw [h] at hx
    clear h
    go_enter Tryz.func151, Tryz.ntmps151
    go_wp2_with (go_at_call 157; refine (hx _).mono ?_; rintro e w2 ⟨rfl, rfl⟩)
    go_ret
    exact ⟨ret_b HB.out.symm, rfl⟩
  · have HB : Hid (((byt s).contains c) = true) := by show _ = _; simpa using (cut_at c s o h).2.2
    rw [h] at hx
    clear h
    go_enter Tryz.func151, Tryz.ntmps151
    go_wp2_with (go_at_call 157; refine (hx _).mono ?_; rintro e w2 ⟨rfl, rfl⟩)
    go_ret
    exact ⟨ret_b (by first | exact HB.out.symm | (rw [HB.out]; simp)), rfl⟩

def leftIn (Bs : Nat) (w : World) : Nat := match w.cell? ⟨Bs, 0, none⟩ with | some (.string c) => c.size | _ => 0
theorem leftIn_eq {Bs : Nat} {w : World} {c : ByteArray} (h : Boxed w Bs 9 (.string c)) : leftIn Bs w = c.size := by unfold leftIn; rw [h.cell]
theorem bkeeps {B : Nat → Prop} {W W' : World} {k : Nat} {t : TypeId} {v : Value} (h : Boxed W k t v) (hk : Keeps B W W') (hB : B k) : Boxed W' k t v := (hk k hB).trans h
theorem bext {W W' : World} {k : Nat} {t : TypeId} {v : Value} (h : Boxed W k t v) (hk : Ext W W') : Boxed W' k t v := (hk.block k h.lt).trans h
theorem bother {W : World} {k j : Nat} {t : TypeId} {v : Value} (h : Boxed W k t v) (hkj : k ≠ j) (u : Value) : Boxed (W.setCell ⟨j, 0, none⟩ u) k t v := (Below.heap_setCell _ _ _ _ hkj).trans h
/-- a text that is not too long -/
abbrev Txt := { x : ByteArray // x.size ≤ 281474976710656 }
def tb (x : Txt) : List UInt8 := byt x.1

set_option maxRecDepth 100000 in
set_option maxHeartbeats 4000000 in
theorem split_seq (n : Nat) (hn : 1 ≤ n) (Bs : Nat) (s : ByteArray) (hs : s.size ≤ 281474976710656) (sc : UInt8) (w : World) (hb1 : Boxed w Bs 9 (.string s)) (hb2 : Boxed w (Bs + 1) 9 (.string ⟨#[sc]⟩)) (hb3 : Boxed w (Bs + 2) 3 (.int .i64 0)) :
    BoxSeq n Tryz.prog 158 #[.pointer (some ⟨Bs + 1, 0, none⟩), .pointer (some ⟨Bs, 0, none⟩), .pointer (some ⟨Bs + 2, 0, none⟩)] (fun x : Txt => #[.string x.1]) (fun k => k = Bs ∨ k = Bs + 1 ∨ k = Bs + 2) Bs
      (fun xs => xs.map tb = splitC sc (byt s)) (fun pre => ∃ r, pre.map tb ++ r = splitC sc (byt s)) w := by
  intro l J Jx W hW hJs hY h0
  have b1 : Boxed W Bs 9 (.string s) := bext hb1 hW
  have b2 : Boxed W (Bs + 1) 9 (.string ⟨#[sc]⟩) := bext hb2 hW
  have b3 : Boxed W (Bs + 2) 3 (.int .i64 0) := bext hb3 hW
  have c2 := b2.cell
  have hz1 : (⟨#[sc]⟩ : ByteArray).size = 1 := rfl
  clear hb1 hb2 hb3 hW
  refine callsIn_of_wp Tryz.func158 rfl trivial ?_ rfl
  simp only [Tryz.ntmps158, List.size_toArray, List.length_cons, List.length_nil, Nat.reduceAdd, Nat.reduceSub, Array.replicate_succ, Array.replicate_zero, List.push_toArray, List.append_toArray, List.nil_append, List.cons_append]
  gi_wp2
  gi_loopw [7, 8] (fun _ _ wr => ∃ (pre : List Txt) (cur : ByteArray), Boxed wr Bs 9 (.string cur) ∧ Boxed wr (Bs + 1) 9 (.string ⟨#[sc]⟩) ∧ Boxed wr (Bs + 2) 3 (.int .i64 0) ∧ cur.size ≤ 281474976710656 ∧ Hid (pre.map tb ++ splitC sc (byt cur) = splitC sc (byt s)) ∧ J pre wr)
    (fun _ _ wr => leftIn Bs wr)
  case atStart => exact ⟨[], s, b1, b2, b3, hs, rfl, h0⟩
  case round =>
    obtain ⟨pre, cur, k1, k2, k3, hcs, hpre, hJp⟩ := hrel
    have c1 := k1.cell
    have f1 := k1.frozen
    have c2 := k2.cell
    have c3 := k3.cell
    have hx := fun w => Index_one cur sc w
    rcases at_cases sc cur with hi | ⟨o, ho⟩
    · rw [hi] at hx
      have hlast := (no_at sc cur hi).1
      obtain ⟨fn, tmps, assign, body, hy, hR⟩ := hY pre ⟨cur, hcs⟩ wr hJp
      have hend : Hid ((pre ++ [(⟨cur, hcs⟩ : Txt)]).map tb = splitC sc (byt s)) := by show _ = _; rw [← hpre.out, hlast]; simp [tb]
      clear hY hi hlast
      dsimp only at hy
      gi_wp2_with (refine ⟨trivial, ?_⟩; gi_at_call 157; refine (callsIn_wide.2 (hx _)).mono ?_; rintro e w2 ⟨rfl, rfl⟩)
      gi_wp2
      refine hR.mono ?_
      rintro e W3 (⟨rfl, hJ3, hk3⟩ | ⟨rfl, hJx3⟩)
      · gi_wp2
        go_end0
        exact ⟨⟨_, rfl⟩, .inl ⟨_, hend.out, hJ3⟩⟩
      · gi_wp2
        go_end0
        exact ⟨⟨_, rfl⟩, .inr ⟨_, ⟨[], by rw [List.append_nil]; exact hend.out⟩, hJx3⟩⟩
    · rw [ho] at hx
      obtain ⟨hoc, hcut, _⟩ := cut_at sc cur o ho
      have hex : (cur.extract 0 o).size ≤ 281474976710656 := by simp; omega
      obtain ⟨fn, tmps, assign, body, hy, hR⟩ := hY pre ⟨cur.extract 0 o, hex⟩ wr hJp
      have hnext : Hid ((pre ++ [(⟨cur.extract 0 o, hex⟩ : Txt)]).map tb ++ splitC sc (byt (cur.extract (o + 1) cur.size)) = splitC sc (byt s)) := by show _ = _; rw [← hpre.out, hcut]; simp [tb]
      have hsz : (cur.extract (o + 1) cur.size).size = cur.size - (o + 1) := by simp
      clear hY ho hcut
      dsimp only at hy
      gi_wp2_with (refine ⟨trivial, ?_⟩; gi_at_call 157; refine (callsIn_wide.2 (hx _)).mono ?_; rintro e w2 ⟨rfl, rfl⟩)
      refine hR.mono ?_
      rintro e W3 (⟨rfl, hJ3, hk3⟩ | ⟨rfl, hJx3⟩)
      · have m1 := bkeeps k1 hk3 (.inl rfl)
        have m2 := bkeeps k2 hk3 (.inr (.inl rfl))
        have m3 := bkeeps k3 hk3 (.inr (.inr rfl))
        have d1 := m1.cell
        have g1 := m1.frozen
        have d2 := m2.cell
        gi_wp2
        go_roundw
        case rel => exact ⟨_, cur.extract (o + 1) cur.size, m1.set _, bother m2 (by omega) _, bother m3 (by omega) _, by rw [hsz]; omega, hnext, hJs _ _ _ hJ3⟩
        case measure => rw [leftIn_eq (m1.set (.string (cur.extract (o + 1) cur.size))), leftIn_eq k1, hsz]; omega
      · gi_wp2
        refine bodyPost_ret (results_none rfl _ _ _) rfl ?_
        exact ⟨⟨_, rfl⟩, .inr ⟨_, ⟨_, hnext.out⟩, hJx3⟩⟩

set_option maxRecDepth 100000 in
set_option maxHeartbeats 1000000 in
theorem SplitSeq_any (w : World) (s sep : ByteArray) :
    Calls Tryz.prog 146 #[.string s, .string sep] w fun e w' => e = .returned (.func (.func 158) #[] #[.pointer (some ⟨w.heap.size + 1, 0, none⟩), .pointer (some ⟨w.heap.size, 0, none⟩), .pointer (some ⟨w.heap.size + 2, 0, none⟩)]) ∧
      w' = ((w.alloc (.cells #[.string s] 9)).alloc (.cells #[.string sep] 9)).alloc (.cells #[.int .i64 0] 3) := by
  have h1 : Calls Tryz.prog 152 #[.string s, .string sep, .int .i64 0] w fun e w' => e = .returned (.func (.func 158) #[] #[.pointer (some ⟨w.heap.size + 1, 0, none⟩), .pointer (some ⟨w.heap.size, 0, none⟩), .pointer (some ⟨w.heap.size + 2, 0, none⟩)]) ∧
      w' = ((w.alloc (.cells #[.string s] 9)).alloc (.cells #[.string sep] 9)).alloc (.cells #[.int .i64 0] 3) := by
    go_enter Tryz.func152, Tryz.ntmps152
    go_wp2
    go_ret
    exact ⟨rfl, rfl⟩
  go_enter Tryz.func146, Tryz.ntmps146
  go_wp2_with (go_at_call 152; refine h1.mono ?_; rintro e w2 ⟨rfl, rfl⟩)
  go_ret
  exact ⟨rfl, rfl⟩
end Go.Proofs.YtdcfiphffbgocaaGreatDoor
