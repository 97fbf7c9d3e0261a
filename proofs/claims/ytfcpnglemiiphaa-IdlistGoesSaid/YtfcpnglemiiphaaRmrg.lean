/-
  The document's merge.
-/
import Derived.Test.YtfcpnglemiiphaaIseq
import Derived.Test.YtfcpnglemiiphaaIappw
namespace Go.Proofs.Ytfcpnglemiiphaa
open Go.RowKit Go.Shelf

/-- a number more in a row of one's own -/
theorem push_row {w wr : World} {a : Option Addr} {n c : Nat} {acc : List UInt64} (hx : Ext w wr) (hrow : RowE 33 U6 wr (fun q => w.heap.size ≤ q) (.slice a n c) acc) (id : UInt64) (ty : TypeId) (hl : acc.length ≤ 17592186045000) :
    ∃ w9 a9 c9, (Builtin.append_ #[22, 22] ty #[.slice a n c, .slice (some ⟨wr.heap.size, 0, none⟩) 1 1]).run Try.prog (wr.alloc (.cells #[.int .u64 (id.toNat : Int)] 33)) = .ok (.slice a9 (n + 1) c9) w9 ∧
      Hid (RowE 33 U6 w9 (fun q => w.heap.size ≤ q) (.slice a9 (n + 1) c9) (acc ++ [id]) ∧ Ext w w9 ∧ Keep (fun k => k < w.heap.size) wr w9) := by
  obtain ⟨w9, a9, c9, hr, r9, o9⟩ := run_append6w (wr.alloc (.cells #[.int .u64 (id.toNat : Int)] 33)) _ ty _ _ (Row.alloc hrow _) _ 1 [id] (srcB Try.underlying22 one6 _ wr.heap.size _ _ 1 1 (heap_alloc_new wr _) rfl rfl) rfl (by simp; omega)
  have hn : n = acc.length := hrow.sl.len.1
  subst hn
  have o9' : Only (fun q => w.heap.size ≤ q) wr w9 := ((Only.refl _ wr).alloc _).trans (o9.mono fun _ _ h => .inl h)
  refine ⟨w9, a9, c9, hr, ?_, hx.then o9' (fun _ h => h), Keep.ofOnly o9' (fun k hk => by omega)⟩
  refine r9.to rfl rfl ?_
  have hz := hx.size
  rintro q (hq | hq)
  · exact hq
  · simp at hq; omega
theorem in_below {w : World} {v : Value} {l : List UInt64} (hs : Sl U6 w v l) : In (fun k => k < w.heap.size) v := by
  rintro a' n' c' rfl hpos
  obtain ⟨g, o, e, hc⟩ := hs.at 0 (by have := hs.len.1; omega)
  simp only [Option.some.injEq] at e
  subst e
  exact World.block_lt_of_cell? w _ hc
/-- a list without its first -/
theorem Sl.tail {w : World} {a : Option Addr} {n c : Nat} {l : List UInt64} {B : Nat → Prop} (h : Sl U6 w (.slice a n c) l) (hi : In B (.slice a n c)) (hn : 1 ≤ n) : Sl U6 w (sliced a 1 n c 1) (l.drop 1) ∧ In B (sliced a 1 n c 1) := by
  have hl := h.len
  have h1 := h.cut 1 n c hn (by omega) hl.2.1 (Nat.le_refl _)
  rw [List.take_of_length_le (by omega)] at h1
  exact ⟨h1, hi.cut 1 n c hn (Nat.le_refl _)⟩
theorem Sl.tail1 {w : World} {g o n c : Nat} {x : UInt64} {t : List UInt64} {B : Nat → Prop} (h : Sl U6 w (.slice (some ⟨g, o, none⟩) n c) (x :: t)) (hi : In B (.slice (some ⟨g, o, none⟩) n c)) :
    Sl U6 w (.slice (if c = 1 then some ⟨g, o, none⟩ else some ⟨g, o + 1, none⟩) (n - 1) (c - 1)) t ∧ In B (.slice (if c = 1 then some ⟨g, o, none⟩ else some ⟨g, o + 1, none⟩) (n - 1) (c - 1)) := by
  have h1 := h.tail hi (by have := h.len.1; simp at this; omega)
  simpa [sliced, Addr.add] using h1
theorem head_at {w : World} {a : Option Addr} {n c : Nat} {x : UInt64} {t : List UInt64} (h : Sl U6 w (.slice a n c) (x :: t)) : ∃ g o, a = some ⟨g, o, none⟩ ∧ w.cell? ⟨g, o, none⟩ = some (.int .u64 (x.toNat : Int)) := by
  obtain ⟨g, o, e, hc⟩ := h.at 0 (by simp)
  exact ⟨g, o, e, by simpa [U6] using hc⟩

set_option maxRecDepth 100000 in
set_option maxHeartbeats 8000000 in
theorem rmerge_any (w : World) (va vb : Value) (A B : List UInt64) (hA : Sl U6 w va A) (hB : Sl U6 w vb B) (hl : A.length + B.length ≤ 17592186044417) :
    Calls Try.prog 36 #[va, vb] w fun x w' => ∃ u, x = .returned u ∧ RowE 33 U6 w' (fun q => w.heap.size ≤ q) u ((mrg A B).map (·.1)) ∧ Ext w w' := by
  obtain ⟨a, na, ca, rfl, hna⟩ := hA.shape
  obtain ⟨b, nb, cb, rfl, hnb⟩ := hB.shape
  have ia : Hid (In (fun k => k < w.heap.size) (.slice a na ca)) := in_below hA
  have ib : Hid (In (fun k => k < w.heap.size) (.slice b nb cb)) := in_below hB
  have hAh : Hid (Sl U6 w (.slice a na ca) A) := hA
  have hBh : Hid (Sl U6 w (.slice b nb cb) B) := hB
  obtain ⟨R, hR⟩ : ∃ R, (mrg A B).map (·.1) = R := ⟨_, rfl⟩
  have hRh : Hid ((mrg A B).map (·.1) = R) := hR
  rw [hR]
  clear hA hB hR
  have mixed := (by kernel_rfl : Try.prog.follows Departure.mixedOrders = true)
  go_enter Try.func36, Try.ntmps36
  go_wp2
  go_loopw [0, 1, 5] (fun x0 x1 x5 wr => ∃ (a0 : Option Addr) (n0 c0 : Nat) (a1 : Option Addr) (n1 c1 : Nat) (a5 : Option Addr) (n5 c5 : Nat), x0 = .slice a0 n0 c0 ∧ x1 = .slice a1 n1 c1 ∧ x5 = .slice a5 n5 c5 ∧ Hid (∃ (ra rb acc : List UInt64), n0 = ra.length ∧ n1 = rb.length ∧ acc.length + ra.length + rb.length ≤ A.length + B.length ∧
      (Sl U6 wr (.slice a0 n0 c0) ra ∧ In (fun k => k < w.heap.size) (.slice a0 n0 c0)) ∧ (Sl U6 wr (.slice a1 n1 c1) rb ∧ In (fun k => k < w.heap.size) (.slice a1 n1 c1)) ∧ RowE 33 U6 wr (fun q => w.heap.size ≤ q) (.slice a5 n5 c5) acc ∧ acc ++ (mrg ra rb).map (·.1) = R ∧ Ext w wr)) (fun x0 x1 _ _ => lenOf x0 + lenOf x1)
  case atStart => exact ⟨a, na, ca, b, nb, cb, none, 0, 0, rfl, rfl, rfl, A, B, [], hna.out, hnb.out, by simp, ⟨hAh.out, ia.out⟩, ⟨hBh.out, ib.out⟩, row_nil _ _ _ _, hRh.out, Ext.refl _⟩
  case round =>
    obtain ⟨a0, n0, c0, a1, n1, c1, a5, n5, c5, rfl, rfl, rfl, hH⟩ := hrel
    obtain ⟨ra, rb, acc, e0, e1, hsum, ⟨sa, ia0⟩, ⟨sb, ib0⟩, hrow, hun, hx⟩ := hH.out
    clear hH
    match ra, rb with
    | [], [] =>
      obtain rfl : n0 = 0 := e0
      obtain rfl : n1 = 0 := e1
      have hrowh : Hid (RowE 33 U6 wr (fun q => w.heap.size ≤ q) (.slice a5 n5 c5) R) := by
        rw [mrg_nil] at hun
        simp only [List.map_nil, List.append_nil] at hun
        rw [← hun]; exact hrow
      clear hun hrow sa sb
      go_wp2
      go_ret
      exact ⟨_, rfl, hrowh.out, hx⟩
    | x :: s, [] =>
      obtain rfl : n1 = 0 := e1
      have hn0 : 1 ≤ n0 := by simp at e0; omega
      obtain ⟨g, o, rfl, hc⟩ := head_at sa
      have hn0i : (0 : Int) < (n0 : Int) := by omega
      have hcap := sa.len.2.1
      have hmm : n0 ≤ 9223372036854775807 := by have hm := sa.len.2.2; unfold maxLen at hm; omega
      have e0h : Hid (n0 = (x :: s).length) := e0
      have hunh : Hid (acc ++ [x] ++ (mrg s []).map (·.1) = R) := by show _ = _; rw [← hun, mrg_nil', mrg_nil']; simp
      have ta : Hid _ := sa.tail1 ia0
      have sbh : Hid (Sl U6 wr (.slice a1 0 c1) []) := sb
      clear e0 hun sa sb
      go_wp2
      go_quiet (fail)
      go_wp2_with (at_builtin; refine Hid.out ?_)
      obtain ⟨w9, a9, c9, hr, hp⟩ := push_row (hx.drewN nq) (Row.ext hrow ((Ext.refl _).drewN nq)) x 22 (by simp at hsum; omega)
      refine Lib.wpList_append_run _ rfl _ _ _ _ rfl _ _ rfl rfl _ _ hr ?_
      clear hr
      go_wp2
      go_roundw
      case rel =>
        obtain ⟨p1, p2, p3⟩ := hp.out
        have p3' := (Keep.ext ((Ext.refl wr).drewN nq)).trans p3
        refine ⟨_, _, _, _, _, _, _, _, _, rfl, rfl, rfl, s, [], acc ++ [x], ?_, rfl, ?_, ⟨ta.out.1.kept p3' ta.out.2, ta.out.2⟩, ⟨sbh.out.kept p3' ib0, ib0⟩, p1, hunh.out, p2⟩
        · have := e0h.out; simp only [List.length_cons] at this; omega
        · simp at hsum ⊢; omega
      case measure => simp only [lenOf]; omega
    | [], y :: t =>
      obtain rfl : n0 = 0 := e0
      have hn1 : 1 ≤ n1 := by simp at e1; omega
      obtain ⟨g, o, rfl, hc⟩ := head_at sb
      have hn1i : (0 : Int) < (n1 : Int) := by omega
      have hn1b : ((n1 : Int) == 0) = false := by simpa using (show (n1 : Int) ≠ 0 by omega)
      have hcap := sb.len.2.1
      have hmm : n1 ≤ 9223372036854775807 := by have hm := sb.len.2.2; unfold maxLen at hm; omega
      have e1h : Hid (n1 = (y :: t).length) := e1
      have hunh : Hid (acc ++ [y] ++ (mrg [] t).map (·.1) = R) := by show _ = _; rw [← hun, mrg_nil, mrg_nil]; simp
      have tb : Hid _ := sb.tail1 ib0
      have sah : Hid (Sl U6 wr (.slice a0 0 c0) []) := sa
      clear e1 hun sa sb
      go_wp2
      go_quiet (fail)
      have xq : Ext wr (wr.drewN nq) := (Ext.refl wr).drewN nq
      have hc1 := xq.cell hc
      generalize wr.drewN nq = w1 at *
      go_wp2
      go_quiet (fail)
      go_wp2_with (at_builtin; refine Hid.out ?_)
      obtain ⟨w9, a9, c9, hr, hp⟩ := push_row ((hx.trans xq).drewN nq) (Row.ext hrow (xq.drewN nq)) y 22 (by simp at hsum; omega)
      refine Lib.wpList_append_run _ rfl _ _ _ _ rfl _ _ rfl rfl _ _ hr ?_
      clear hr
      go_wp2
      go_roundw
      case rel =>
        obtain ⟨p1, p2, p3⟩ := hp.out
        have p3' := (Keep.ext (xq.drewN nq)).trans p3
        refine ⟨_, _, _, _, _, _, _, _, _, rfl, rfl, rfl, [], t, acc ++ [y], rfl, ?_, ?_, ⟨sah.out.kept p3' ia0, ia0⟩, ⟨tb.out.1.kept p3' tb.out.2, tb.out.2⟩, p1, hunh.out, p2⟩
        · have := e1h.out; simp at this; omega
        · simp at hsum ⊢; omega
      case measure => simp only [lenOf]; omega
    | x :: s, y :: t =>
      have hn0 : 1 ≤ n0 := by simp at e0; omega
      have hn1 : 1 ≤ n1 := by simp at e1; omega
      obtain ⟨g, o, rfl, hc⟩ := head_at sa
      obtain ⟨g2, o2, rfl, hc2⟩ := head_at sb
      have hn0i : (0 : Int) < (n0 : Int) := by omega
      have hn1i : (0 : Int) < (n1 : Int) := by omega
      have hn1b : ((n1 : Int) == 0) = false := by simpa using (show (n1 : Int) ≠ 0 by omega)
      have hcap := sa.len.2.1
      have hcap2 := sb.len.2.1
      have hd0 : decide (0 < n0) = true := decide_eq_true hn0
      have hmm : n0 ≤ 9223372036854775807 := by have hm := sa.len.2.2; unfold maxLen at hm; omega
      have hmm2 : n1 ≤ 9223372036854775807 := by have hm := sb.len.2.2; unfold maxLen at hm; omega
      have e0h : Hid (n0 = (x :: s).length) := e0
      have e1h : Hid (n1 = (y :: t).length) := e1
      have ta : Hid _ := sa.tail1 ia0
      have tb : Hid _ := sb.tail1 ib0
      have sah : Hid (Sl U6 wr (.slice (some ⟨g, o, none⟩) n0 c0) (x :: s)) := sa
      have sbh : Hid (Sl U6 wr (.slice (some ⟨g2, o2, none⟩) n1 c1) (y :: t)) := sb
      rw [mrg_cons] at hun
      clear e0 e1 sa sb
      by_cases hxy : x < y
      · have hlt : (x.toNat : Int) < (y.toNat : Int) := ltI hxy
        rw [if_pos hxy] at hun
        have hunh : Hid (acc ++ [x] ++ (mrg s (y :: t)).map (·.1) = R) := by show _ = _; rw [← hun]; simp
        clear hun hxy
        go_wp2
        go_quiet (fail)
        go_wp2_with (at_builtin; refine Hid.out ?_)
        obtain ⟨w9, a9, c9, hr, hp⟩ := push_row (hx.drewN nq) (Row.ext hrow ((Ext.refl _).drewN nq)) x 22 (by simp at hsum; omega)
        refine Lib.wpList_append_run _ rfl _ _ _ _ rfl _ _ rfl rfl _ _ hr ?_
        clear hr
        go_wp2
        go_roundw
        case rel =>
          obtain ⟨p1, p2, p3⟩ := hp.out
          have p3' := (Keep.ext ((Ext.refl wr).drewN nq)).trans p3
          refine ⟨_, _, _, _, _, _, _, _, _, rfl, rfl, rfl, s, y :: t, acc ++ [x], ?_, e1h.out, ?_, ⟨ta.out.1.kept p3' ta.out.2, ta.out.2⟩, ⟨sbh.out.kept p3' ib0, ib0⟩, p1, hunh.out, p2⟩
          · have := e0h.out; simp only [List.length_cons] at this; omega
          · simp at hsum ⊢; omega
        case measure => simp only [lenOf]; omega
      · have hge : decide ((x.toNat : Int) < (y.toNat : Int)) = false := by have := geI hxy; simp only [decide_eq_false_iff_not]; omega
        have hge2 : decide (x.toNat < y.toNat) = false := by have := geI hxy; simp only [decide_eq_false_iff_not]; omega
        rw [if_neg hxy] at hun
        by_cases hyx : y < x
        · have hne : ((x.toNat : Int) == (y.toNat : Int)) = false := by have := ltI hyx; simpa using (show (x.toNat : Int) ≠ (y.toNat : Int) by omega)
          rw [if_pos hyx] at hun
          have hunh : Hid (acc ++ [y] ++ (mrg (x :: s) t).map (·.1) = R) := by show _ = _; rw [← hun]; simp
          clear hun hxy hyx
          go_wp2
          go_quiet (fail)
          have xq : Ext wr (wr.drewN nq) := (Ext.refl wr).drewN nq
          have hc1 := xq.cell hc
          have hc3 := xq.cell hc2
          generalize wr.drewN nq = w1 at *
          go_wp2
          go_quiet (fail)
          go_wp2_with (at_builtin; refine Hid.out ?_)
          obtain ⟨w9, a9, c9, hr, hp⟩ := push_row ((hx.trans xq).drewN nq) (Row.ext hrow (xq.drewN nq)) y 22 (by simp at hsum; omega)
          refine Lib.wpList_append_run _ rfl _ _ _ _ rfl _ _ rfl rfl _ _ hr ?_
          clear hr
          go_wp2
          go_roundw
          case rel =>
            obtain ⟨p1, p2, p3⟩ := hp.out
            have p3' := (Keep.ext (xq.drewN nq)).trans p3
            refine ⟨_, _, _, _, _, _, _, _, _, rfl, rfl, rfl, x :: s, t, acc ++ [y], e0h.out, ?_, ?_, ⟨sah.out.kept p3' ia0, ia0⟩, ⟨tb.out.1.kept p3' tb.out.2, tb.out.2⟩, p1, hunh.out, p2⟩
            · have := e1h.out; simp at this; omega
            · simp at hsum ⊢; omega
          case measure => simp only [lenOf]; omega
        · have hexy : x = y := by rw [u_lt] at hxy hyx; rw [u_eq]; omega
          rw [if_neg hyx] at hun
          subst hexy
          have hunh : Hid (acc ++ [x] ++ (mrg s t).map (·.1) = R) := by show _ = _; rw [← hun]; simp
          clear hun hxy hyx
          by_cases hcc : c0 = 1
          · subst hcc
            obtain rfl : n0 = 1 := by omega
            have tc : Hid (Sl U6 wr (.slice (some ⟨g, o, none⟩) 0 0) s ∧ In (fun k => k < w.heap.size) (.slice (some ⟨g, o, none⟩) 0 0)) := by have h := ta.out; rw [if_pos rfl] at h; exact h
            clear ta
            go_wp2
            go_quiet (fail)
            have xq : Ext wr (wr.drewN nq) := (Ext.refl wr).drewN nq
            have hc1 := xq.cell hc
            have hc3 := xq.cell hc2
            generalize wr.drewN nq = w1 at *
            go_wp2
            go_quiet (fail)
            go_wp2_with (at_builtin; refine Hid.out ?_)
            obtain ⟨w9, a9, c9, hr, hp⟩ := push_row ((hx.trans xq).drewN nq) (Row.ext hrow (xq.drewN nq)) x 22 (by simp at hsum; omega)
            refine Lib.wpList_append_run _ rfl _ _ _ _ rfl _ _ rfl rfl _ _ hr ?_
            clear hr
            go_wp2
            go_roundw
            case rel =>
              obtain ⟨p1, p2, p3⟩ := hp.out
              have p3' := (Keep.ext (xq.drewN nq)).trans p3
              refine ⟨_, _, _, _, _, _, _, _, _, rfl, rfl, rfl, s, t, acc ++ [x], ?_, ?_, ?_, ⟨tc.out.1.kept p3' tc.out.2, tc.out.2⟩, ⟨tb.out.1.kept p3' tb.out.2, tb.out.2⟩, p1, hunh.out, p2⟩
              · have := e0h.out; simp only [List.length_cons] at this; omega
              · have := e1h.out; simp at this; omega
              · simp at hsum ⊢; omega
            case measure => simp only [lenOf]; omega
          · have tc : Hid (Sl U6 wr (.slice (some ⟨g, o + 1, none⟩) (n0 - 1) (c0 - 1)) s ∧ In (fun k => k < w.heap.size) (.slice (some ⟨g, o + 1, none⟩) (n0 - 1) (c0 - 1))) := by have h := ta.out; rw [if_neg hcc] at h; exact h
            clear ta
            go_wp2
            go_quiet (fail)
            have xq : Ext wr (wr.drewN nq) := (Ext.refl wr).drewN nq
            have hc1 := xq.cell hc
            have hc3 := xq.cell hc2
            generalize wr.drewN nq = w1 at *
            go_wp2
            go_quiet (fail)
            go_wp2_with (at_builtin; refine Hid.out ?_)
            obtain ⟨w9, a9, c9, hr, hp⟩ := push_row ((hx.trans xq).drewN nq) (Row.ext hrow (xq.drewN nq)) x 22 (by simp at hsum; omega)
            refine Lib.wpList_append_run _ rfl _ _ _ _ rfl _ _ rfl rfl _ _ hr ?_
            clear hr
            go_wp2
            go_roundw
            case rel =>
              obtain ⟨p1, p2, p3⟩ := hp.out
              have p3' := (Keep.ext (xq.drewN nq)).trans p3
              refine ⟨_, _, _, _, _, _, _, _, _, rfl, rfl, rfl, s, t, acc ++ [x], ?_, ?_, ?_, ⟨tc.out.1.kept p3' tc.out.2, tc.out.2⟩, ⟨tb.out.1.kept p3' tb.out.2, tb.out.2⟩, p1, hunh.out, p2⟩
              · have := e0h.out; simp only [List.length_cons] at this; omega
              · have := e1h.out; simp at this; omega
              · simp at hsum ⊢; omega
            case measure => simp only [lenOf]; omega
end Go.Proofs.Ytfcpnglemiiphaa
