/-
  lay, of the statements: the items are laid, one behind the other and in one another.
-/
import Derived.Test.YtjannndndbohaaaBtree
namespace Go.Proofs.Ytjannndndbohaaa
open Go.RowKit Go.Shelf

theorem lay_step (kd c n v : Int) (s : ByteArray) (i r : IT) (d k : Nat) : layL (.cons kd c n v s i r) d (k + 1) =
    (wrapB (made kd d) (tc c) (tn n) (bodyK kd v s d k (layL i (d + 1) k)).1 ++ (layL r d (bodyK kd v s d k (layL i (d + 1) k)).2).1, (layL r d (bodyK kd v s d k (layL i (d + 1) k)).2).2) := by
  rw [layL, if_neg (by omega)]; rfl
theorem lay_zero (kd c n v : Int) (s : ByteArray) (i r : IT) (d : Nat) : layL (.cons kd c n v s i r) d 0 = ([], 0) := by rw [layL, if_pos rfl]
/-- where the loop stands: j are laid, y is left -/
def LayAt (w0 : World) (N : Nat) (a : Option Addr) (n : Nat) (x : IT) (p : Value) (st : Wr) (d k : Nat) (wr : World) (j k' : Nat) (y : IT) (pre : List UInt8) : Prop :=
  j + y.len = n ∧ y.size ≤ N ∧ k' ≤ k ∧ (y.len = 0 ∨ ∃ g o, a = some ⟨g, o, none⟩ ∧ ItCells w0 y g (o + j * 6)) ∧ layL x d k = (pre ++ (layL y d k').1, (layL y d k').2) ∧ Wk w0 wr p ⟨st.laid ++ pre, st.opn⟩ ∧ Small ⟨st.laid ++ pre, st.opn⟩ k' d

theorem LayAt.step {w0 w2 : World} {N : Nat} {g o n : Nat} {x : IT} {p : Value} {st : Wr} {d k j k1 : Nat} {kd c nn v : Int} {s : ByteArray} {i r : IT} {pre : List UInt8} (hl1 : j + (r.len + 1) = n) (hl2 : (IT.cons kd c nn v s i r).size ≤ N) (hl3 : k1 + 1 ≤ k) (hk : k ≤ 500)
    (hr : ItCells w0 r g (o + j * 6 + 6)) (hl5 : layL x d k = (pre ++ (layL (.cons kd c nn v s i r) d (k1 + 1)).1, (layL (.cons kd c nn v s i r) d (k1 + 1)).2)) (hl7 : Small ⟨st.laid ++ pre, st.opn⟩ (k1 + 1) d)
    (b : List UInt8) (k2 : Nat) (m : Bool) (hbk : bodyK kd v s d k1 (layL i (d + 1) k1) = (b, k2)) (hm : made kd d = m) (hw2 : Wk w0 w2 p ⟨st.laid ++ pre ++ wrapB m (tc c) (tn nn) b, st.opn⟩) :
    LayAt w0 N (some ⟨g, o, none⟩) n x p st d k w2 (j + 1) k2 r (pre ++ wrapB m (tc c) (tn nn) b) := by
  have hi := layL_bound i (d + 1) k1 (by omega)
  obtain ⟨b1, b2⟩ := bodyK_bound kd v s d k1 _ hi.1 hi.2
  rw [lay_step, hbk, hm] at hl5
  rw [hbk] at b1 b2
  simp only at b1 b2 hl5
  have hl := lenOct_small b.length (by omega)
  rw [List.append_assoc] at hw2
  have hsm := Small.next hl7 (wrapB m (tc c) (tn nn) b) k2 (by rw [wrapB_length]; omega)
  simp only [List.append_assoc] at hsm
  refine ⟨by omega, by simp only [IT.size] at hl2; omega, by omega, .inr ⟨g, o, rfl, ?_⟩, ?_, hw2, hsm⟩
  · rw [show o + (j + 1) * 6 = o + j * 6 + 6 by omega]; exact hr
  · rw [hl5]; simp only [List.append_assoc]

set_option maxRecDepth 100000 in
set_option maxHeartbeats 8000000 in
theorem lay_tree (w0 : World) : ∀ (N : Nat) (x : IT) (w : World) (v p : Value) (st : Wr) (d k : Nat), x.size < N → ItSl w0 v x → Wk w0 w p st → Small st k d → k ≤ 500 →
    Calls Try.prog 34 #[p, v, .int .i64 d, .int .i64 k] w fun y w' => y = .returned (.tuple #[.int .i64 ((layL x d k).2 : Int), .bool true]) ∧ Wk w0 w' p ⟨st.laid ++ (layL x d k).1, st.opn⟩ := by
  intro N
  induction N with
  | zero => exact fun _ _ _ _ _ _ _ h => absurd h (Nat.not_lt_zero _)
  | succ N ih =>
    intro x w v p st d k hN hv hw hs hk
    obtain ⟨a, cap, rfl, hc1, hc2, hv3⟩ := hv
    obtain ⟨n, hn⟩ : ∃ n, x.len = n := ⟨_, rfl⟩
    have h0 : Hid (LayAt w0 N a n x p st d k w 0 k x []) := ⟨by omega, by omega, Nat.le_refl _, hv3.imp id (fun ⟨g, o, e, h⟩ => ⟨g, o, e, by simpa using h⟩), by simp, by simpa using hw, by simpa using hs⟩
    rw [hn] at hc1 ⊢
    have hnm : n ≤ maxLen := Nat.le_trans hc1 hc2
    simp only [maxLen] at hnm
    have hd : d ≤ 60 := hs.2.2.1
    clear hv3 hn hw hs
    go_enter Try.func34, Try.ntmps34
    go_wp2
    go_loopw [3, 17] (fun l i wr => ∃ (j k' : Nat) (y : IT) (pre : List UInt8), l = .int .i64 k' ∧ i = .int .i64 j ∧ LayAt w0 N a n x p st d k wr j k' y pre) (fun _ i _ => n - (intOf i).toNat)
    case atStart => exact ⟨0, k, x, [], rfl, rfl, h0.out⟩
    case round =>
      obtain ⟨j, k', y, pre, rfl, rfl, hl1, hl2, hl3, hl4, hl5, hl6, hl7⟩ := hrel
      have hl5h : Hid (layL x d k = (pre ++ (layL y d k').1, (layL y d k').2)) := hl5
      clear hl5 h0
      cases y with
      | nil =>
        simp only [IT.len] at hl1
        obtain rfl : j = n := by omega
        go_wp2
        go_ret2
        rw [hl5h.out]
        simp only [layL, List.append_nil]
        exact ⟨rfl, hl6⟩
      | cons kd c nn v s i r =>
        simp only [IT.len] at hl1 hl4
        rcases hl4 with hl4 | ⟨g, o, rfl, ⟨q0, q1, q2, q3, q4⟩, ⟨⟨hb1, hb2⟩, hb3, hb4⟩, ⟨ai, ci, q5, hci, hcm, hi⟩, hr⟩
        · omega
        have hj : j < n := by omega
        match k' with
        | 0 =>
          go_wp2
          go_ret2
          rw [hl5h.out, lay_zero]
          simp only [List.append_nil]
          exact ⟨rfl, hl6⟩
        | k1 + 1 =>
          have hk1 : ((k1 + 1 : Nat) : Int) = (k1 : Int) + 1 := by omega
          have f0 := hl6.2.cell q0
          have f1 := hl6.2.cell q1
          have f2 := hl6.2.cell q2
          have f3 := hl6.2.cell q3
          have f4 := hl6.2.cell q4
          have f5 := hl6.2.cell q5
          have q5' := q5
          have e0 := fun w1 (hx : Ext wr w1) => hx.cell f0
          have e3 := fun w1 (hx : Ext wr w1) => hx.cell f3
          have e4 := fun w1 (hx : Ext wr w1) => hx.cell f4
          have e5 := fun w1 (hx : Ext wr w1) => hx.cell f5
          have ptag := tag_any wr kd c nn v s (.slice ai i.len ci) hb1 hb2
          have hfin := fun (w2 : World) (b : List UInt8) (k2 : Nat) (m : Bool) hbk hm hw2 => LayAt.step (w2 := w2) (p := p) (st := st) hl1 hl2 hl3 hk hr hl5h.out hl7 b k2 m hbk hm hw2
          have hfinh : Hid (∀ (w2 : World) (b : List UInt8) (k2 : Nat) (m : Bool), bodyK kd v s d k1 (layL i (d + 1) k1) = (b, k2) → made kd d = m → Wk w0 w2 p ⟨st.laid ++ pre ++ wrapB m (tc c) (tn nn) b, st.opn⟩ → LayAt w0 N (some ⟨g, o, none⟩) n x p st d k w2 (j + 1) k2 r (pre ++ wrapB m (tc c) (tn nn) b)) := hfin
          have hsz : Hid (i.size < N) := by simp only [IT.size] at hl2; show _ < _; omega
          clear hfin hl5h q0 q1 q2 q3 q4 q5 hr hl2
          by_cases hk0 : kd = 0
          · subst hk0
            have pint := fun w1 (hx : Ext wr w1) => Int_tk (hl6.ext hx) hl7 c nn v hb3 hb4
            go_wp2_with (first | (go_at_call 54; refine ptag.mono ?_; rintro _ w1 ⟨rfl, x1⟩; have g0 := e0 w1 x1; have g3 := e3 w1 x1; have g4 := e4 w1 x1; have g5 := e5 w1 x1) | (go_at_call 40; refine (pint w1 x1).mono ?_; rintro _ w2 ⟨rfl, hw2⟩))
            go_roundw
            case rel => exact ⟨j + 1, k1, r, _, rfl, by go_num, hfinh.out w2 (intB v) k1 false rfl rfl hw2⟩
            case measure => simp [intOf]; omega
          · have hk0' : (kd == 0) = false := by simpa using hk0
            by_cases hk1' : kd = 1
            · subst hk1'
              have pflag := fun w1 (hx : Ext wr w1) => Flag_tk (hl6.ext hx) hl7 c nn v
              go_wp2_with (first | (go_at_call 54; refine ptag.mono ?_; rintro _ w1 ⟨rfl, x1⟩; have g0 := e0 w1 x1; have g3 := e3 w1 x1; have g4 := e4 w1 x1; have g5 := e5 w1 x1) | (go_at_call 47; refine (pflag w1 x1).mono ?_; rintro _ w2 ⟨rfl, hw2⟩))
              go_roundw
              case rel => exact ⟨j + 1, k1, r, _, rfl, by go_num, hfinh.out w2 (flagB v) k1 false rfl rfl hw2⟩
              case measure => simp [intOf]; omega
            · have hk1'' : (kd == 1) = false := by simpa using hk1'
              by_cases hk2 : kd = 2
              · subst hk2
                have ptext := fun w1 (hx : Ext wr w1) => Text_tk (hl6.ext hx) hl7 c nn s
                have pcut := fun w1 => cut_any w1 s
                go_wp2_with (first | (go_at_call 54; refine ptag.mono ?_; rintro _ w1 ⟨rfl, x1⟩; have g0 := e0 w1 x1; have g3 := e3 w1 x1; have g4 := e4 w1 x1; have g5 := e5 w1 x1) | (go_at_call 55; refine (pcut _).mono ?_; rintro _ w2 ⟨rfl, rfl⟩) | (go_at_call 39; refine (ptext _ x1).mono ?_; rintro _ w2 ⟨rfl, hw2⟩))
                go_roundw
                case rel => exact ⟨j + 1, k1, r, _, rfl, by go_num, hfinh.out w2 (txt s) k1 false rfl rfl hw2⟩
                case measure => simp [intOf]; omega
              · have hk2' : (kd == 2) = false := by simpa using hk2
                by_cases hd6 : 60 ≤ d
                · have hd6' : (60 : Int) ≤ (d : Int) := by omega
                  have ptext := fun w1 (hx : Ext wr w1) => Text_tk (hl6.ext hx) hl7 c nn s
                  have pcut := fun w1 => cut_any w1 s
                  go_wp2_with (first | (go_at_call 54; refine ptag.mono ?_; rintro _ w1 ⟨rfl, x1⟩; have g0 := e0 w1 x1; have g3 := e3 w1 x1; have g4 := e4 w1 x1; have g5 := e5 w1 x1) | (go_at_call 55; refine (pcut _).mono ?_; rintro _ w2 ⟨rfl, rfl⟩) | (go_at_call 39; refine (ptext _ x1).mono ?_; rintro _ w2 ⟨rfl, hw2⟩))
                  go_roundw
                  case rel => exact ⟨j + 1, k1, r, _, rfl, by go_num, hfinh.out w2 (txt s) k1 false (by simp [bodyK, hk0, hk1', hd6]) (by simp [made, hd6]) hw2⟩
                  case measure => simp [intOf]; omega
                · have hd6' : ¬ (60 : Int) ≤ (d : Int) := by omega
                  have hf : (st.laid ++ pre).length + 1 < 1152921504606846976 := by have := hl7.1; simp only at this; omega
                  have popen := fun w1 (hx : Ext wr w1) => Open_tk (hl6.ext hx) hl7 c nn hf
                  have hsm := hl7.inner (by omega) (tagM (tc c) (tn nn)) hf
                  have hbnd := layL_bound i (d + 1) k1 (by omega)
                  have hsm2 := hsm.next (layL i (d + 1) k1).1 (layL i (d + 1) k1).2 (by omega)
                  have pin := fun w2 hw2 => ih i w2 (.slice ai i.len ci) p _ (d + 1) k1 hsz.out ⟨ai, ci, rfl, hci, hcm, hi⟩ hw2 hsm (by omega)
                  have hbk : Hid (bodyK kd v s d k1 (layL i (d + 1) k1) = layL i (d + 1) k1) := by show _ = _; simp [bodyK, hk0, hk1', hk2, hd6]
                  have hmd : Hid (made kd d = true) := by show _ = _; simp [made, hk0, hk1', hk2, hd6]
                  generalize layL i (d + 1) k1 = q at *
                  have pclose := fun w3 hw3 => Close_tk (w0 := w0) (p := p) (w := w3) hw3 hsm2
                  clear hsm hsm2 ih hbnd
                  go_wp2_with (first | (go_at_call 54; refine ptag.mono ?_; rintro _ w1 ⟨rfl, x1⟩; have g0 := e0 w1 x1; have g3 := e3 w1 x1; have g4 := e4 w1 x1; have g5 := e5 w1 x1) | (go_at_call 38; refine (popen _ x1).mono ?_; rintro _ w2 ⟨rfl, hw2⟩; have g5 := hw2.2.cell (show w0.cell? _ = _ from q5')) | (go_at_call 34; refine (pin _ hw2).mono ?_; rintro _ w3 ⟨rfl, hw3⟩) | (go_at_call 41; refine (pclose _ hw3).mono ?_; rintro _ w4 ⟨rfl, hw4⟩))
                  go_roundw
                  case rel => exact ⟨j + 1, _, r, _, rfl, by go_num, hfinh.out w4 _ _ true hbk.out hmd.out hw4⟩
                  case measure => simp [intOf]; omega
end Go.Proofs.Ytjannndndbohaaa
