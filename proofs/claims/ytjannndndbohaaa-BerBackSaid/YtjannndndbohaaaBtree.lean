/-
  A tree of items as it lies in memory; the writer's calls on it while it stays small.
-/
import Derived.Test.YtjannndndbohaaaBtag
import Derived.Test.YtjannndndbohaaaBworks
namespace Go.Proofs.Ytjannndndbohaaa
open Go.RowKit Go.Shelf

/-- from the place o of the block g on there are these items -/
def ItCells (w : World) : IT → Nat → Nat → Prop
  | .nil, _, _ => True
  | .cons kd c n v s i r, g, o =>
    (w.cell? ⟨g, o, none⟩ = some (.int .i64 kd) ∧ w.cell? ⟨g, o + 1, none⟩ = some (.int .i8 c) ∧ w.cell? ⟨g, o + 2, none⟩ = some (.int .i64 n) ∧ w.cell? ⟨g, o + 3, none⟩ = some (.int .i64 v) ∧ w.cell? ⟨g, o + 4, none⟩ = some (.string s)) ∧
    ((-128 ≤ c ∧ c ≤ 127) ∧ -9223372036854775808 ≤ v ∧ v < 9223372036854775808) ∧
    (∃ a cap, w.cell? ⟨g, o + 5, none⟩ = some (.slice a i.len cap) ∧ i.len ≤ cap ∧ cap ≤ maxLen ∧ (i.len = 0 ∨ ∃ g' o', a = some ⟨g', o', none⟩ ∧ ItCells w i g' o')) ∧ ItCells w r g (o + 6)
/-- v is a slice of these items -/
def ItSl (w : World) (v : Value) (x : IT) : Prop := ∃ a cap, v = .slice a x.len cap ∧ x.len ≤ cap ∧ cap ≤ maxLen ∧ (x.len = 0 ∨ ∃ g o, a = some ⟨g, o, none⟩ ∧ ItCells w x g o)
theorem ItCells.ext {w w' : World} (k : Ext w w') : ∀ (x : IT) (g o : Nat), ItCells w x g o → ItCells w' x g o
  | .nil, _, _, _ => trivial
  | .cons _ _ _ _ _ i r, g, o, ⟨⟨h0, h1, h2, h3, h4⟩, hb, ⟨a, cap, h5, hc1, hc2, hi⟩, hr⟩ =>
    ⟨⟨k.cell h0, k.cell h1, k.cell h2, k.cell h3, k.cell h4⟩, hb, ⟨a, cap, k.cell h5, hc1, hc2, hi.imp id (fun ⟨g', o', e, h⟩ => ⟨g', o', e, ItCells.ext k i g' o' h⟩)⟩, ItCells.ext k r g (o + 6) hr⟩
theorem ItSl.ext {w w' : World} {v : Value} {x : IT} (h : ItSl w v x) (k : Ext w w') : ItSl w' v x := by
  obtain ⟨a, cap, e, h1, h2, h3⟩ := h
  exact ⟨a, cap, e, h1, h2, h3.imp id (fun ⟨g, o, e, h⟩ => ⟨g, o, e, h.ext k⟩)⟩

/-- while it stays small -/
def Small (st : Wr) (k d : Nat) : Prop := st.laid.length + 65600 * k ≤ 33000000 ∧ st.opn.length = d ∧ d ≤ 60 ∧ opensOK st.laid.length (nats st.opn)
theorem may_tag (c n : Int) : mayB (tc c : Int) (tn n : Int) = true := by
  have h1 := tc_le c
  have h2 := tn_lt n
  simp only [mayB, decide_eq_true_eq]
  omega
theorem small_lay {st : Wr} {k d : Nat} (h : Small st (k + 1) d) (c n : Int) (b : List UInt8) (hb : b.length ≤ 65536) : layE st (tc c) (tn n) b = 0 ∧ layW st (tc c) (tn n) b = ⟨st.laid ++ wrapB false (tc c) (tn n) b, st.opn⟩ := by
  obtain ⟨h1, h2, h3, _⟩ := h
  have hl := lenOct_small b.length (by omega)
  have hc := closedN_le (st.laid.length + (1 + lenOct b.length + b.length)) (nats st.opn) (by simp [nats]; omega)
  simp only [nats, List.length_map] at hc
  have e : layE st (tc c) (tn n) b = 0 := by
    unfold layE
    rw [may_tag, if_neg (by simp), if_neg (by simp only [nats]; omega)]
  refine ⟨e, ?_⟩
  unfold layW
  rw [if_pos e]
  simp [wrapB, itemL, tg]
theorem small_open {st : Wr} {k d : Nat} (h : Small st (k + 1) d) (c n : Int) (hl : st.laid.length ≤ 67108864) : openE st (tc c) (tn n) = 0 ∧ openW st (tc c) (tn n) hl = ⟨st.laid ++ [tagM (tc c) (tn n)], ⟨st.laid.length + 1, by omega⟩ :: st.opn⟩ := by
  obtain ⟨h1, h2, h3, _⟩ := h
  have hc := closedN_le (st.laid.length + 2) (nats st.opn) (by simp [nats]; omega)
  simp only [nats, List.length_map] at hc
  have e : openE st (tc c) (tn n) = 0 := by
    unfold openE
    rw [may_tag, if_neg (by simp), if_neg (by omega), if_neg (by simp only [nats]; omega)]
  refine ⟨e, ?_⟩
  unfold openW
  rw [if_pos e]
  simp
theorem Small.inner {st : Wr} {k d : Nat} (h : Small st (k + 1) d) (hd : d < 60) (t : UInt8) (hf) : Small ⟨st.laid ++ [t], ⟨st.laid.length + 1, hf⟩ :: st.opn⟩ k (d + 1) := by
  obtain ⟨h1, h2, h3, h4⟩ := h
  refine ⟨by simp; omega, by simp; omega, by omega, ?_⟩
  simp only [nats, List.map_cons, List.length_append, List.length_singleton]
  exact ⟨Nat.le_refl _, opensOK_mono h4 (by omega)⟩
theorem Small.next {st : Wr} {k d : Nat} (h : Small st k d) (b : List UInt8) (k' : Nat) (hb : b.length + 65600 * k' ≤ 65600 * k) : Small ⟨st.laid ++ b, st.opn⟩ k' d := by
  obtain ⟨h1, h2, h3, h4⟩ := h
  refine ⟨by simp; omega, h2, h3, ?_⟩
  exact opensOK_mono h4 (by simp)

theorem Int_tk {w0 w : World} {p : Value} {st : Wr} {k d : Nat} (h : Wk w0 w p st) (hs : Small st (k + 1) d) (c n v : Int) (hv1 : -9223372036854775808 ≤ v) (hv2 : v < 9223372036854775808) :
    Calls Try.prog 40 #[p, .int .i8 (tc c : Int), .int .i64 (tn n : Int), .int .i64 v] w fun x w' => x = .returned (.int .i64 0) ∧ Wk w0 w' p ⟨st.laid ++ wrapB false (tc c) (tn n) (intB v), st.opn⟩ := by
  have hb := octN_bound v
  have hl := small_lay hs c n (intB v) (by simp [intB, twos_length]; omega)
  refine (WInt_any w _ p st (tc c) (tn n) v h.1 (by have := hs.1; omega) (by have := hs.2.1; have := hs.2.2.1; omega) hv1 hv2).mono fun _ w' ⟨e, hw⟩ => ?_
  rw [hl.1] at e; rw [hl.2] at hw
  exact ⟨e, h.next hw⟩
theorem Flag_tk {w0 w : World} {p : Value} {st : Wr} {k d : Nat} (h : Wk w0 w p st) (hs : Small st (k + 1) d) (c n v : Int) :
    Calls Try.prog 47 #[p, .int .i8 (tc c : Int), .int .i64 (tn n : Int), .bool (decide (0 < v))] w fun x w' => x = .returned (.int .i64 0) ∧ Wk w0 w' p ⟨st.laid ++ wrapB false (tc c) (tn n) (flagB v), st.opn⟩ := by
  have e0 : (if decide (0 < v) = true then [255] else [0] : List UInt8) = flagB v := by unfold flagB; by_cases h : 0 < v <;> simp [h]
  have hl := small_lay hs c n (flagB v) (by unfold flagB; split <;> simp)
  have hf := WFlag_any w _ p st (tc c) (tn n) (decide (0 < v)) h.1 (by have := hs.1; omega) (by have := hs.2.1; have := hs.2.2.1; omega)
  rw [e0, hl.1, hl.2] at hf
  exact hf.mono fun _ w' ⟨e, hw⟩ => ⟨e, h.next hw⟩
theorem Text_tk {w0 w : World} {p : Value} {st : Wr} {k d : Nat} (h : Wk w0 w p st) (hs : Small st (k + 1) d) (c n : Int) (s : ByteArray) :
    Calls Try.prog 39 #[p, .int .i8 (tc c : Int), .int .i64 (tn n : Int), .string (str (txt s))] w fun x w' => x = .returned (.int .i64 0) ∧ Wk w0 w' p ⟨st.laid ++ wrapB false (tc c) (tn n) (txt s), st.opn⟩ := by
  have ht : (txt s).length ≤ 65536 := by simp [txt]; omega
  have hl := small_lay hs c n (txt s) ht
  have hf := WText_any w _ p st (tc c) (tn n) (str (txt s)) h.1 (by have := hs.1; omega) (by have := hs.2.1; have := hs.2.2.1; omega) (by rw [← byt_length, byt_str]; omega)
  rw [byt_str, hl.1, hl.2] at hf
  exact hf.mono fun _ w' ⟨e, hw⟩ => ⟨e, h.next hw⟩
theorem Open_tk {w0 w : World} {p : Value} {st : Wr} {k d : Nat} (h : Wk w0 w p st) (hs : Small st (k + 1) d) (c n : Int) (hf : st.laid.length + 1 < 1152921504606846976) :
    Calls Try.prog 38 #[p, .int .i8 (tc c : Int), .int .i64 (tn n : Int)] w fun x w' => x = .returned (.int .i64 0) ∧ Wk w0 w' p ⟨st.laid ++ [tagM (tc c) (tn n)], ⟨st.laid.length + 1, hf⟩ :: st.opn⟩ := by
  have hl := small_open hs c n (by have := hs.1; omega)
  have ho := Open_any w _ p st (tc c) (tn n) h.1 (by have := hs.1; omega) (by have := hs.2.1; have := hs.2.2.1; omega)
  rw [hl.1, hl.2] at ho
  exact ho.mono fun _ w' ⟨e, hw⟩ => ⟨e, h.next hw⟩
theorem Close_tk {w0 w : World} {p : Value} {L b : List UInt8} {opn : List FNat} {t : UInt8} {k d : Nat} {hf} (h : Wk w0 w p ⟨(L ++ [t]) ++ b, ⟨L.length + 1, hf⟩ :: opn⟩) (hs : Small ⟨(L ++ [t]) ++ b, ⟨L.length + 1, hf⟩ :: opn⟩ k d) :
    Calls Try.prog 41 #[p] w fun x w' => x = .returned (.int .i64 0) ∧ Wk w0 w' p ⟨L ++ (t :: (lenL b.length ++ b)), opn⟩ := by
  have hc := Close_any w _ p _ h.1 (by have := hs.1; omega) (by have := hs.2.1; have := hs.2.2.1; omega) hs.2.2.2
  have e1 : closeE ⟨(L ++ [t]) ++ b, ⟨L.length + 1, hf⟩ :: opn⟩ = 0 := by simp [closeE]
  have e2 : closeW ⟨(L ++ [t]) ++ b, ⟨L.length + 1, hf⟩ :: opn⟩ = ⟨L ++ (t :: (lenL b.length ++ b)), opn⟩ := by
    have hh : (L ++ [t]).length = L.length + 1 := by simp
    simp only [closeW, Wr.mk.injEq, and_true]
    rw [← hh, List.take_left, List.drop_left, show ((L ++ [t]) ++ b).length - (L ++ [t]).length = b.length by simp; omega]
    simp
  rw [e1, e2] at hc
  exact hc.mono fun _ w' ⟨e, hw⟩ => ⟨e, h.next hw⟩
end Go.Proofs.Ytjannndndbohaaa
