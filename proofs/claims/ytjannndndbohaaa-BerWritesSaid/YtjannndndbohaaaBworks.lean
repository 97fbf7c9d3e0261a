/-
  The contract of works: a few items are laid and read.
-/
import Derived.Test.YtjannndndbohaaaBwint
import Derived.Test.YtjannndndbohaaaBside
namespace Go.Proofs.Ytjannndndbohaaa
open Go.RowKit Go.Shelf

/-- the writer lies in memory that is new since w0, and nothing that was there has turned -/
def Wk (w0 w : World) (p : Value) (st : Wr) : Prop := WrAt w (fun k => w0.heap.size ≤ k) p st ∧ Ext w0 w
theorem Wk.next {w0 w w' : World} {p : Value} {st st' : Wr} (h : Wk w0 w p st) (k : WrAt w' (Up (fun k => w0.heap.size ≤ k) w.heap.size) p st' ∧ Only (fun k => w0.heap.size ≤ k) w w') : Wk w0 w' p st' := by
  refine ⟨k.1.wide ?_, h.2.then k.2 (fun _ h => h)⟩
  rintro q (hq | hq)
  · exact hq
  · exact Nat.le_trans h.2.size hq
theorem Wk.ext {w0 w w' : World} {p : Value} {st : Wr} (h : Wk w0 w p st) (k : Ext w w') : Wk w0 w' p st := ⟨h.1.ext k, h.2.trans k⟩

def st0 : Wr := ⟨[], []⟩
def st1 : Wr := ⟨[48], [⟨1, by omega⟩]⟩
def st2 : Wr := ⟨[48, 4, 2, 104, 105], [⟨1, by omega⟩]⟩
def st3 : Wr := ⟨[48, 4, 2, 104, 105, 2, 2, 0, 128], [⟨1, by omega⟩]⟩
def st4 : Wr := ⟨[48, 8, 4, 2, 104, 105, 2, 2, 0, 128], []⟩
theorem e1 : openE st0 0 16 = 0 ∧ openW st0 0 16 (by decide) = st1 := by decide
theorem e2 : layE st1 0 4 [104, 105] = 0 ∧ layW st1 0 4 [104, 105] = st2 := by decide
theorem e3 : layE st2 0 2 (intB 128) = 0 ∧ layW st2 0 2 (intB 128) = st3 := by decide
theorem e4 : closeE st3 = 0 ∧ closeW st3 = st4 := by decide
theorem e5 : headL st4.laid 0 10 = (⟨0, true, 16, 2, 10⟩, 0) := by decide
theorem e6 : headL st4.laid 2 10 = (⟨0, false, 4, 4, 6⟩, 0) := by decide
theorem e7 : headL st4.laid 6 10 = (⟨0, false, 2, 8, 10⟩, 0) := by decide
theorem e8 : sideL st4.laid 2 10 = ([(2, ⟨0, false, 4, 4, 6⟩), (6, ⟨0, false, 2, 8, 10⟩)], 0) := by
  have hw : withinB 2 10 st4.laid.length = true := by decide
  unfold sideL
  rw [if_pos hw]
  show items st4.laid 10 2 = _
  have a1 := items_step st4.laid 10 2 (by decide) (congrArg Prod.snd e6)
  have a2 := items_step st4.laid 10 6 (by decide) (congrArg Prod.snd e7)
  have a3 := items_end st4.laid 10 10 (by decide)
  rw [show headL st4.laid ((2 : Nat) : Int) ((10 : Nat) : Int) = _ from e6] at a1
  rw [show headL st4.laid ((6 : Nat) : Int) ((10 : Nat) : Int) = _ from e7] at a2
  simp only at a1 a2
  rw [a1, a2, a3]
theorem e9 : wholeL st4.laid 2 10 = [⟨0, false, 4, 4, 6⟩, ⟨0, false, 2, 8, 10⟩] := by
  unfold wholeL; rw [e8]; rfl
theorem e10 : bodyE st4.laid false 4 6 = 0 ∧ str (textV st4.laid false 4 6) = ⟨#[104, 105]⟩ := by decide
theorem e11 : intE st4.laid false 8 10 = 0 ∧ intV st4.laid false 8 10 = 128 := by decide

theorem New_wk (w0 w : World) (h : Ext w0 w) : Calls Try.prog 26 #[] w fun x w' => ∃ g, x = .returned (.pointer (some ⟨g, 0, none⟩)) ∧ Wk w0 w' (.pointer (some ⟨g, 0, none⟩)) st0 :=
  (New_any w).mono fun _ w' ⟨p, e, _, hp, hx⟩ => by
    have hq := hp
    obtain ⟨g, _, _, rfl, _⟩ := hp
    exact ⟨g, e, hq.wide (fun _ h9 => Nat.le_trans h.size h9), h.trans hx⟩
theorem Open_wk {w0 w : World} {p : Value} (h : Wk w0 w p st0) : Calls Try.prog 38 #[p, .int .i8 0, .int .i64 16] w fun x w' => x = .returned (.int .i64 0) ∧ Wk w0 w' p st1 :=
  (Open_any w _ p st0 0 16 h.1 (by decide) (by decide)).mono fun _ w' ⟨e, hw⟩ => by
    rw [e1.1] at e; rw [e1.2] at hw
    exact ⟨e, h.next hw⟩
theorem Text_wk {w0 w : World} {p : Value} (h : Wk w0 w p st1) : Calls Try.prog 39 #[p, .int .i8 0, .int .i64 4, .string ⟨#[104, 105]⟩] w fun x w' => x = .returned (.int .i64 0) ∧ Wk w0 w' p st2 :=
  (WText_any w _ p st1 0 4 ⟨#[104, 105]⟩ h.1 (by decide) (by decide) (by decide)).mono fun _ w' ⟨e, hw⟩ => by
    rw [show byt ⟨#[104, 105]⟩ = [104, 105] from rfl] at e hw
    rw [e2.1] at e; rw [e2.2] at hw
    exact ⟨e, h.next hw⟩
theorem Int_wk {w0 w : World} {p : Value} (h : Wk w0 w p st2) : Calls Try.prog 40 #[p, .int .i8 0, .int .i64 2, .int .i64 128] w fun x w' => x = .returned (.int .i64 0) ∧ Wk w0 w' p st3 :=
  (WInt_any w _ p st2 0 2 128 h.1 (by decide) (by decide) (by omega) (by omega)).mono fun _ w' ⟨e, hw⟩ => by
    rw [e3.1] at e; rw [e3.2] at hw
    exact ⟨e, h.next hw⟩
theorem Close_wk {w0 w : World} {p : Value} (h : Wk w0 w p st3) : Calls Try.prog 41 #[p] w fun x w' => x = .returned (.int .i64 0) ∧ Wk w0 w' p st4 :=
  (Close_any w _ p st3 h.1 (by decide) (by decide) ⟨by decide, trivial⟩).mono fun _ w' ⟨e, hw⟩ => by
    rw [e4.1] at e; rw [e4.2] at hw
    exact ⟨e, h.next hw⟩
theorem Bytes_wk {w0 w : World} {p : Value} (h : Wk w0 w p st4) : Calls Try.prog 31 #[p] w fun x w' => ∃ a cap, x = .returned (.tuple #[.slice a 10 cap, .int .i64 0]) ∧ Sl w' (.slice a 10 cap) st4.laid ∧ Ext w0 w' :=
  (Bytes_any w _ p st4 h.1 (by decide)).mono fun _ w' ⟨u, e, hu, hx⟩ => by
    have hs := hu.sl
    have hl : (if st4.opn = [] then st4.laid else []) = st4.laid := rfl
    rw [hl] at hs
    obtain ⟨a, cap, rfl, _⟩ := hs
    refine ⟨a, cap, e, ?_, h.2.trans hx⟩
    have := hu.sl
    rwa [hl] at this

theorem Head_wk {w : World} {a : Option Addr} {cap : Nat} (h : Sl w (.slice a 10 cap) st4.laid) : Calls Try.prog 10 #[.slice a 10 cap, .int .i64 0, .int .i64 10] w fun x w' => x = .returned (.tuple #[.agg #[.int .i8 0, .bool true, .int .i64 16, .int .i64 2, .int .i64 10], .int .i64 0]) ∧ Ext w w' := by
  have h9 := Head_any w _ st4.laid 0 10 h (by decide)
  rw [e5] at h9
  exact h9
theorem Whole_wk {w : World} {a : Option Addr} {cap : Nat} (h : Sl w (.slice a 10 cap) st4.laid) : Calls Try.prog 16 #[.slice a 10 cap, .int .i64 2, .int .i64 10] w fun x w' => ∃ g cap2, x = .returned (.tuple #[.slice (some ⟨g, 0, none⟩) 2 cap2, .int .i64 0]) ∧ 2 ≤ cap2 ∧ Ext w w' ∧
    ((w'.cell? ⟨g, 0, none⟩ = some (.int .i8 0) ∧ w'.cell? ⟨g, 1, none⟩ = some (.bool false) ∧ w'.cell? ⟨g, 2, none⟩ = some (.int .i64 4) ∧ w'.cell? ⟨g, 3, none⟩ = some (.int .i64 4) ∧ w'.cell? ⟨g, 4, none⟩ = some (.int .i64 6)) ∧
     (w'.cell? ⟨g, 5, none⟩ = some (.int .i8 0) ∧ w'.cell? ⟨g, 6, none⟩ = some (.bool false) ∧ w'.cell? ⟨g, 7, none⟩ = some (.int .i64 2) ∧ w'.cell? ⟨g, 8, none⟩ = some (.int .i64 8) ∧ w'.cell? ⟨g, 9, none⟩ = some (.int .i64 10))) := by
  refine (Whole_any w _ st4.laid 2 10 h (by decide)).mono ?_
  rintro _ w' ⟨u, rfl, hu, hx⟩
  rw [e9] at hu
  obtain ⟨g, cap2, rfl, hc, hh⟩ := hu.cells (by decide)
  exact ⟨g, cap2, by rw [e8]; rfl, hc, hx, hh.out 0 (by decide), hh.out 1 (by decide)⟩
theorem RText_wk {w : World} {a : Option Addr} {cap : Nat} (h : Sl w (.slice a 10 cap) st4.laid) : Calls Try.prog 24 #[.slice a 10 cap, .agg #[.int .i8 0, .bool false, .int .i64 4, .int .i64 4, .int .i64 6]] w fun x w' => x = .returned (.tuple #[.string ⟨#[104, 105]⟩, .int .i64 0]) ∧ Ext w w' := by
  have h9 := Text_any w _ st4.laid 0 false 4 4 6 h
  rw [e10.1, e10.2] at h9
  exact h9
theorem RInt_wk {w : World} {a : Option Addr} {cap : Nat} (h : Sl w (.slice a 10 cap) st4.laid) : Calls Try.prog 20 #[.slice a 10 cap, .agg #[.int .i8 0, .bool false, .int .i64 2, .int .i64 8, .int .i64 10]] w fun x w' => x = .returned (.tuple #[.int .i64 128, .int .i64 0]) ∧ Ext w w' := by
  have h9 := Int_any w _ st4.laid 0 false 2 8 10 h
  rw [e11.1, e11.2] at h9
  exact h9

set_option maxRecDepth 100000 in
set_option maxHeartbeats 8000000 in
theorem works_any (w : World) : Calls Try.prog 13 #[] w fun x w' => x = .returned (.bool true) ∧ Ext w w' := by
  have hst : (str st4.laid).toList = [48, 8, 4, 2, 104, 105, 2, 2, 0, 128] := by rw [ByteArray.toList_eq]; rfl
  go_enter Try.func13, Try.ntmps13
  go_wp2_with (first
    | (go_at_call 26; refine (New_wk w w (Ext.refl w)).mono ?_; rintro _ w1 ⟨g, rfl, h1⟩)
    | (go_at_call 38; refine (Open_wk h1).mono ?_; rintro _ w2 ⟨rfl, h2⟩)
    | (go_at_call 39; refine (Text_wk h2).mono ?_; rintro _ w3 ⟨rfl, h3⟩)
    | (go_at_call 40; refine (Int_wk h3).mono ?_; rintro _ w4 ⟨rfl, h4⟩)
    | (go_at_call 41; refine (Close_wk h4).mono ?_; rintro _ w5 ⟨rfl, h5⟩)
    | (go_at_call 31; refine (Bytes_wk h5).mono ?_; rintro _ w6 ⟨a6, cap6, rfl, s6, x6⟩; have hcv := s6.conv (Ext.refl w6)))
  refine (Head_wk s6).mono ?_
  rintro _ w7 ⟨rfl, x7⟩
  have s7 := s6.ext x7
  have s7a : ∀ ob : Obj, Sl (w7.alloc ob) (.slice a6 10 cap6) st4.laid := fun ob => s7.ext ((Ext.refl w7).alloc ob)
  go_wp2_with (first
    | (go_at_call 16; refine (Whole_wk (s7a _)).mono ?_; rintro _ w8 ⟨g8, cap8, rfl, hc8, x8, ⟨c0, c1, c2, c3, c4⟩, c5, c6, c7, c8, c9⟩; have b8 := fun o u (h : (w7.alloc _).cell? ⟨w7.heap.size, o, none⟩ = some u) => x8.cell h))
  have s8 := (s7a _).ext x8
  refine (RText_wk s8).mono ?_
  rintro _ w9 ⟨rfl, x9⟩
  have d5 := x9.cell c5
  have d6 := x9.cell c6
  have d7 := x9.cell c7
  have d8 := x9.cell c8
  have d9 := x9.cell c9
  have s9 := s8.ext x9
  go_wp2_with (first
    | (go_at_call 20; refine (RInt_wk s9).mono ?_; rintro _ w10 ⟨rfl, x10⟩))
  go_ret
  exact ⟨rfl, ((((x6.trans x7).alloc _).trans x8).trans x9).trans x10⟩
end Go.Proofs.Ytjannndndbohaaa
