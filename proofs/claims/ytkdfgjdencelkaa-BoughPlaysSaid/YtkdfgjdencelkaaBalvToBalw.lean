/-
  alive: what every program must do.
-/
import Derived.Test.YtkdfgjdencelkaaBwsS
import Derived.Test.YtkdfgjdencelkaaBstS
namespace Go.Proofs.Ytkdfgjdencelkaa
open Go.RowKit Go.Shelf
attribute [local go_sem] Oper.semAt_some
/-- the three texts -/
abbrev sA : ByteArray := ⟨#[97]⟩
abbrev sB : ByteArray := ⟨#[98]⟩
abbrev sC : ByteArray := ⟨#[99]⟩
abbrev tr1 : Tr Int64 ByteArray := .nd .nil 11 sA .nil
abbrev tr2 : Tr Int64 ByteArray := .nd .nil 11 sA (.nd .nil 35 sB .nil)
abbrev tr3 : Tr Int64 ByteArray := .nd .nil 19 sC (.nd .nil 35 sB .nil)
abbrev tr4 : Tr Int64 ByteArray := .nd .nil 35 sB .nil
theorem tr1_eq : Tr.put (cmpI 2) 11 sA .nil = tr1 := rfl
theorem tr2_eq : Tr.put (cmpI 2) 35 sB tr1 = tr2 := by kernel_rfl
theorem tr3_eq : Tr.put (cmpI 2) 19 sC tr2 = tr3 := by kernel_rfl
theorem tr4_eq : Tr.del (cmpI 2) 12 tr3 = tr4 := by kernel_rfl
theorem i11 : (11 : Int64).toInt = 11 := by decide
theorem i12 : (12 : Int64).toInt = 12 := by decide
theorem i19 : (19 : Int64).toInt = 19 := by decide
theorem i20 : (20 : Int64).toInt = 20 := by decide
theorem i35 : (35 : Int64).toInt = 35 := by decide
theorem i40 : (40 : Int64).toInt = 40 := by decide
section
set_option maxRecDepth 100000
set_option maxHeartbeats 4000000
theorem aPut1 (cb B : Nat) (w : World) (h : BS.BgAt cb 2 w B .nil) : Calls Try.prog 47 #[.pointer (some ⟨B, 0, none⟩), .int .i64 11, .string sA] w fun e w' => e = .returned (.bool true) ∧ BS.BgAt cb 2 w' B tr1 ∧ Only (fun g => g = B) w w' := by
  have := BS.Put_any cb 2 w B .nil h 11 sA (by decide)
  rw [tr1_eq, i11] at this
  exact this
theorem aPut2 (cb B : Nat) (w : World) (h : BS.BgAt cb 2 w B tr1) : Calls Try.prog 47 #[.pointer (some ⟨B, 0, none⟩), .int .i64 35, .string sB] w fun e w' => e = .returned (.bool true) ∧ BS.BgAt cb 2 w' B tr2 ∧ Only (fun g => g = B) w w' := by
  have := BS.Put_any cb 2 w B _ h 35 sB (by decide)
  rw [tr2_eq, i35] at this
  exact this
theorem aPut3 (cb B : Nat) (w : World) (h : BS.BgAt cb 2 w B tr2) : Calls Try.prog 47 #[.pointer (some ⟨B, 0, none⟩), .int .i64 19, .string sC] w fun e w' => e = .returned (.bool false) ∧ BS.BgAt cb 2 w' B tr3 ∧ Only (fun g => g = B) w w' := by
  have := BS.Put_any cb 2 w B _ h 19 sC (by decide)
  rw [tr3_eq, i19] at this
  exact this
theorem aGet (cb B : Nat) (w : World) (h : BS.BgAt cb 2 w B tr3) : Calls Try.prog 43 #[.pointer (some ⟨B, 0, none⟩), .int .i64 12] w fun e w' => e = .returned (.tuple #[.string sC, .bool true]) ∧ Ext w w' := by
  have := BS.Get_any cb 2 w B _ h 12
  rw [show Tr.get (cmpI 2) 12 tr3 = some (19, sC) by kernel_rfl, i12] at this
  exact this
theorem aNth (cb B : Nat) (w : World) (h : BS.BgAt cb 2 w B tr3) : Calls Try.prog 44 #[.pointer (some ⟨B, 0, none⟩), .int .i64 1] w fun e w' => e = .returned (.tuple #[.int .i64 35, .string sB, .bool true]) ∧ Ext w w' := by
  have := BS.Nth_any cb 2 w B _ h 1 (by omega) (by omega) (by decide)
  rw [show Tr.nth tr3 1 = some (35, sB) by kernel_rfl] at this
  simp only [BS.nthO, I6, i35, S6] at this
  exact this
theorem aFrom (cb B : Nat) (w : World) (h : BS.BgAt cb 2 w B tr3) : Calls Try.prog 45 #[.pointer (some ⟨B, 0, none⟩), .int .i64 20] w fun e w' => BS.HandO w w' false [tr4] e := by
  have := BS.From_any cb 2 w B _ h 20 (by decide)
  rw [show Tr.chainSk false (fun a => decide (cmpI 2 a 20 < 0)) tr3 = [tr4] by kernel_rfl, i20] at this
  exact this
theorem aRank (cb B : Nat) (w : World) (h : BS.BgAt cb 2 w B tr3) : Calls Try.prog 49 #[.pointer (some ⟨B, 0, none⟩), .int .i64 40] w fun e w' => e = .returned (.int .i64 2) ∧ Ext w w' := by
  have := BS.Rank_any cb 2 w B _ h 40 (by decide)
  rw [show Tr.rank (cmpI 2) 40 tr3 = 2 by kernel_rfl, i40] at this
  exact this
theorem aDel (cb B : Nat) (w : World) (h : BS.BgAt cb 2 w B tr3) : Calls Try.prog 48 #[.pointer (some ⟨B, 0, none⟩), .int .i64 12] w fun e w' => e = .returned (.bool true) ∧ BS.BgAt cb 2 w' B tr4 ∧ Only (fun g => g = B) w w' := by
  have := BS.Del_any cb 2 w B _ h 12 (by decide)
  rw [tr4_eq, i12] at this
  exact this
theorem eq_nilq (fn : Fn) (a b : Array Value) (w : World) : (binOp .eql 32 (.func fn a b) .nilFunc).run Try.prog w = .ok (.bool false) w := by
  have hu : Try.prog.underlying 32 = _ := Try.underlying32
  have h : ∀ d : Nat, (Op.equalIn (d + 1) 32 (.func fn a b) .nilFunc).run Try.prog w = .ok false w := fun d => by
    simp [Op.equalIn, run_underlying hu]
  simp only [binOp]
  simp [Op.equal, Op.maxDepth, h 9999]
end
end Go.Proofs.Ytkdfgjdencelkaa

/-
  alive answers true.
-/
namespace Go.Proofs.Ytkdfgjdencelkaa
open Go.RowKit Go.Shelf
attribute [local go_sem] Oper.semAt_some
section
set_option maxRecDepth 100000
set_option maxHeartbeats 8000000
theorem alive_any (w : World) : Calls Try.prog 11 #[] w fun e w' => e = .returned (.bool true) ∧ Ext w w' := by
  refine (callsIn_wide (n := 5)).1 ?_
  refine callsIn_of_wp_marks Try.func11 rfl trivial ?_ rfl
  simp only [Try.ntmps11, List.size_toArray, List.length_nil, Nat.reduceSub, Array.replicate_succ, Array.replicate_zero, List.push_toArray, List.append_toArray, List.nil_append, List.cons_append]
  gi_wp2_with fail
  refine ⟨trivial, ?_⟩
  gi_at_call 9
  refine (callsIn_wide.2 (order_any w 2)).mono ?_
  rintro _ w1 ⟨rfl, c1, hw1⟩
  have x1 : Hid (Ext w w1) := by rw [hw1]; exact (Ext.refl w).alloc _
  generalize w.heap.size = cb at *
  clear hw1
  have N1 := BS.New_any cb 2 w1 c1
  gi_wp2_with fail
  refine ⟨trivial, ?_⟩
  gi_at_call 8
  refine (callsIn_wide.2 N1).mono ?_
  rintro _ w2 ⟨rfl, b2, x2, _⟩
  obtain ⟨B, hB⟩ : ∃ B, B = w1.heap.size := ⟨_, rfl⟩
  rw [← hB] at b2 ⊢
  have hBw : Hid (w.heap.size ≤ B) := by rw [hB]; exact x1.out.size
  have xx2 : Hid (Ext w w2) := x1.out.trans x2
  clear hB N1 x1 x2 c1
  gi_wp2_with fail
  refine ⟨trivial, ?_⟩
  gi_at_call 47
  refine (callsIn_wide.2 (aPut1 cb B w2 b2)).mono ?_
  rintro _ w3 ⟨rfl, b3, o3⟩
  have xx3 : Hid (Ext w w3) := xx2.out.then o3 (fun g hg => by rw [hg]; exact hBw.out)
  clear b2 o3 xx2
  gi_wp2_with fail
  refine ⟨trivial, ?_⟩
  gi_at_call 47
  refine (callsIn_wide.2 (aPut2 cb B w3 b3)).mono ?_
  rintro _ w4 ⟨rfl, b4, o4⟩
  have xx4 : Hid (Ext w w4) := xx3.out.then o4 (fun g hg => by rw [hg]; exact hBw.out)
  clear b3 o4 xx3
  gi_wp2_with fail
  refine ⟨trivial, ?_⟩
  gi_at_call 47
  refine (callsIn_wide.2 (aPut3 cb B w4 b4)).mono ?_
  rintro _ w5 ⟨rfl, b5, o5⟩
  have xx5 : Hid (Ext w w5) := xx4.out.then o5 (fun g hg => by rw [hg]; exact hBw.out)
  clear b4 o5 xx4
  gi_wp2_with fail
  refine ⟨trivial, ?_⟩
  gi_at_call 43
  refine (callsIn_wide.2 (aGet cb B w5 b5)).mono ?_
  rintro _ w6 ⟨rfl, x6⟩
  have b6 := b5.ext x6
  have xx6 : Hid (Ext w w6) := xx5.out.trans x6
  clear b5 x6 xx5
  gi_wp2_with fail
  refine ⟨trivial, ?_⟩
  gi_at_call 44
  refine (callsIn_wide.2 (aNth cb B w6 b6)).mono ?_
  rintro _ w7 ⟨rfl, x7⟩
  have b7 := b6.ext x7
  have xx7 : Hid (Ext w w7) := xx6.out.trans x7
  clear b6 x7 xx6
  gi_wp2_with fail
  have hnb0 : Boxed (w7.alloc (.cells #[.int .i64 0] 3)) w7.heap.size 3 (.int .i64 0) := Boxed.new w7 _ _
  have b8 := b7.ext ((Ext.refl w7).alloc (.cells #[.int .i64 0] 3))
  have xx8 : Hid (Ext w (w7.alloc (.cells #[.int .i64 0] 3))) := xx7.out.trans ((Ext.refl w7).alloc _)
  have hnbl : Hid (w7.heap.size < (w7.alloc (.cells #[.int .i64 0] 3)).heap.size) := by show _ < _; simp
  have hnbw : Hid (w.heap.size ≤ w7.heap.size) := xx7.out.size
  have hcbn : Hid (w7.heap.size ≠ cb) := by have := b7.cb.1; show _ ≠ _; omega
  clear b7 xx7
  refine ⟨trivial, ?_⟩
  gi_at_call 45
  generalize w7.alloc (.cells #[.int .i64 0] 3) = w8 at *
  generalize w7.heap.size = nb at *
  refine (callsIn_wide.2 (aFrom cb B w8 b8)).mono ?_
  rintro _ w9 ⟨fb, sb, st, rfl, k9, hst, x9, hsb⟩
  have b9 : Hid (BS.BgAt cb 2 w9 B tr3) := b8.ext x9
  have n9 : Hid (Boxed w9 nb 3 (.int .i64 0)) := ext_block x9 hnb0
  have xx9 : Hid (Ext w w9) := xx8.out.trans x9
  have hne : Hid (nb ≠ sb) := by have := hnbl.out; intro e; omega
  have hnil := eq_nilq (.func 82) #[] #[.pointer (some ⟨fb, 0, none⟩), .pointer (some ⟨sb, 0, none⟩)]
  have hrs : Tr.rest false (BS.trs st) = [(35, sB)] := by rw [hst]; kernel_rfl
  have hseq := BS.seq_any 4 (by omega) w9 fb sb false st k9 (by rw [hrs]; simp)
  rw [hrs] at hseq
  have hBlt : Hid (B < w9.heap.size) := b9.out.cb.2
  clear b8 hnb0 x9 hsb hst hrs k9
  gi_wp2_with fail
  refine wpIn_range_rel (n := 5) (gf := 82) (lb := #[.pointer (some ⟨fb, 0, none⟩), .pointer (some ⟨sb, 0, none⟩)]) rfl (enters_of Try.func82 (by kernel_rfl) rfl) hseq
    (fun _ _ h => h.firm) (fun _ _ h => OwnW.ext h) (fun _ _ _ h k => h.trans k) (fun W l o o' h1 h2 => LeftG.put W l o o' h1 h2) (fun _ => rfl)
    (fun pre W => Boxed W nb 3 (.int .i64 (if pre.length = 0 then 0 else 35)) ∧ BS.BgAt cb 2 W B tr3 ∧ Ext w W)
    (fun _ _ _ => False) ?stI ?stX ⟨n9.out, b9.out, xx9.out⟩ ?a1 ?assign ?body ?done ?stop
  case stX => exact fun _ => ⟨fun _ _ _ h _ => h, fun _ _ _ _ _ _ _ _ h => h⟩
  case assign =>
    intro l x W K hK
    dsimp only [BS.encB]
    gi_wp2
    exact hK
  case stop => intro _ _ _ _ _ _ h; exact h.elim
  case stI =>
    have hcb := b9.out.cb.1
    refine ⟨fun s W W' h o => ⟨BS.KeepC.own o _ _ _ _ h.1 (.inl (by decide)), h.2.1.keep (BS.KeepC.own o) hcb, BS.ext_own h.2.2 o xx9.out.size⟩, fun s W l o o' hl h1 h2 h => ⟨BS.KeepC.put (N := w9.heap.size) W l o o' h1 h2 _ _ _ _ h.1 (.inl (by decide)), h.2.1.keep (BS.KeepC.put W l o o' h1 h2) hcb, BS.ext_put o' h.2.2 (Nat.le_trans xx9.out.size hl)⟩⟩
  case body =>
    intro l pre x W hp hI
    obtain ⟨rfl, rfl⟩ : pre = [] ∧ x = (35, sB) := by
      obtain ⟨r, hr⟩ := hp
      cases pre with
      | nil => simp at hr; exact ⟨rfl, hr.1⟩
      | cons y p => simp at hr
    obtain ⟨n1, g1, x1⟩ := hI
    have c1 := n1.cell
    have f1 := n1.frozen
    simp only [List.length_nil, if_true] at c1
    have n1h : Hid (Boxed W nb 3 (.int .i64 0)) := by show Boxed _ _ _ _; simpa using n1
    have g1h : Hid (BS.BgAt cb 2 W B tr3) := g1
    have x1h : Hid (Ext w W) := x1
    clear n1 g1 x1 hp hseq
    simp only [I6, i35, S6]
    gi_wp2
    refine ⟨?_, ?_, ?_, ?_, ?_⟩
    · exact Firm.setCell _ _ _ _
    · exact BS.left_setBox n1h.out hne.out (by decide) (by decide)
    · exact n1h.out.set _
    · exact g1h.out.setBox n1h.out hcbn.out (by decide) (by decide)
    · exact x1h.out.setNew (p := ⟨nb, 0, none⟩) hnbw.out _
  case done =>
    intro D W hD hI hK
    obtain ⟨n1, g1, x1⟩ := hI
    have c1 : W.cell? ⟨nb, 0, none⟩ = some (.int .i64 35) := n1.cell
    have x1h : Hid (Ext w W) := x1
    have hKh : Hid (W.heap[D]? = some (.deferred (some []))) := hK
    have R1 := aRank cb B W g1
    clear hseq n1 hK
    gi_wp2_with fail
    refine ⟨trivial, ?_⟩
    gi_at_call 49
    refine (callsIn_wide.2 R1).mono ?_
    rintro _ w10 ⟨rfl, x10⟩
    have g10 := g1.ext x10
    have L1 := BS.Len_any cb 2 w10 B _ g10
    have hK10 : Hid (w10.heap[D]? = some (.deferred (some []))) := ext_block x10 hKh.out
    have xx10 : Hid (Ext w w10) := x1h.out.trans x10
    clear R1 g1 c1 x10 hKh x1h x1
    gi_wp2_with fail
    refine ⟨trivial, ?_⟩
    gi_at_call 16
    refine (callsIn_wide.2 L1).mono ?_
    rintro _ w10 ⟨rfl, rfl⟩
    have D1 := aDel cb B w10 g10
    clear L1
    gi_wp2_with fail
    refine ⟨trivial, ?_⟩
    gi_at_call 48
    refine (callsIn_wide.2 D1).mono ?_
    rintro _ w11 ⟨rfl, g11, o11⟩
    have hK11 : Hid (w11.heap[D]? = some (.deferred (some []))) := (o11.block D (Array.getElem?_eq_some_iff.1 hK10.out).1 (fun e => by
      have e' : D = B := e
      have := hBlt.out
      omega)).trans hK10.out
    have xx11 : Hid (Ext w w11) := xx10.out.then o11 (fun g hg => by rw [hg]; exact hBw.out)
    have L2 := BS.Len_any cb 2 w11 B _ g11
    clear D1 g10 o11 hK10 xx10
    gi_wp2_with fail
    refine ⟨trivial, ?_⟩
    gi_at_call 16
    refine (callsIn_wide.2 L2).mono ?_
    rintro _ w11 ⟨rfl, rfl⟩
    clear L2
    gi_wp2
    refine ⟨by simp, .inl ⟨_, _, rfl, run_takeDeferred hK11.out, ?_⟩⟩
    refine ⟨_, results_tmp rfl _ _ _, ⟨rfl, ?_⟩⟩
    exact BS.ext_put _ xx11.out (Nat.le_trans xx9.out.size hD)
end
end Go.Proofs.Ytkdfgjdencelkaa
