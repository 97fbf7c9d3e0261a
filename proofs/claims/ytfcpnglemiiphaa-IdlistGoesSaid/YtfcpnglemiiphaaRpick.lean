/-
  The document's pick, Meet, Less, Drop.
-/
import Derived.Test.YtfcpnglemiiphaaRset
import Derived.Test.YtfcpnglemiiphaaIthp
import Derived.Test.YtfcpnglemiiphaaIsp
namespace Go.Proofs.Ytfcpnglemiiphaa
open Go.RowKit Go.Shelf

def pickR (X Y : List UInt64) (has : Bool) : List UInt64 := X.filter (fun z => decide (z ∈ Y) == has)
theorem pk_in {X Y : List UInt64} (rY : Rises Y) {i k : Nat} (hi : i < X.length) (h1 : ∀ j (hj : j < Y.length), j < k → Y[j] < X[i]) (h2 : ∀ hk : k < Y.length, ¬ Y[k] < X[i]) : X[i] ∈ Y ↔ ∃ hk : k < Y.length, Y[k] = X[i] := by
  constructor
  · intro hm
    obtain ⟨j, hj, he⟩ := List.getElem_of_mem hm
    rcases Nat.lt_trichotomy j k with e | e | e
    · have := h1 j hj e
      rw [he, u_lt] at this; omega
    · subst e; exact ⟨hj, he⟩
    · have h3 := rises_lt rY (show k < Y.length by omega) hj e
      have h4 := h2 (by omega)
      rw [u_lt] at h3 h4
      have := congrArg UInt64.toNat he
      omega
  · rintro ⟨hk, he⟩
    rw [← he]; exact List.getElem_mem hk
theorem pk_next {X Y : List UInt64} {has : Bool} {i : Nat} (hi : i < X.length) {b : Bool} (hb : decide (X[i] ∈ Y) = b) : pickR (X.take (i + 1)) Y has = pickR (X.take i) Y has ++ if b = has then [X[i]] else [] := by
  unfold pickR
  rw [List.take_add_one, List.filter_append, List.getElem?_eq_getElem hi]
  congr 1
  subst hb
  by_cases h : decide (X[i] ∈ Y) = has
  · rw [if_pos h]; simp [h]
  · rw [if_neg h]; simp [h]
theorem pickR_len (X Y : List UInt64) (has : Bool) : (pickR X Y has).length ≤ X.length := List.length_filter_le _ _
/-- what stands at the outer loop -/
structure Pk (w wr : World) (X Y : List UInt64) (has : Bool) (v : Value) (i k : Nat) : Prop where
  row : RowE 33 U6 wr (fun q => w.heap.size ≤ q) v (pickR (X.take i) Y has)
  x : Ext w wr
  lo : ∀ j (hj : j < Y.length), j < k → ∀ i' (hi : i' < X.length), i ≤ i' → Y[j] < X[i']

set_option maxRecDepth 100000 in
set_option maxHeartbeats 16000000 in
theorem rpick_any (w : World) (va vb : Value) (A B : List UInt64) (has : Bool) (hA : Sl U6 w va A) (hB : Sl U6 w vb B) (hla : A.length ≤ 17592186044416) (hlb : B.length ≤ 17592186044416) :
    Calls Try.prog 37 #[va, vb, .bool has] w fun x w' => ∃ u, x = .returned u ∧ RowE 33 U6 w' (fun q => w.heap.size ≤ q) u (pickR (setL A) (setL B) has) ∧ Ext w w' := by
  have h1 := rset_any _ w va A (Nat.le_refl _) hla hA
  have h2 := fun w1 (hx : Ext w w1) => rset_any _ w1 vb B (Nat.le_refl _) hlb (hB.ext hx)
  have rX : Hid (Rises (setL A)) := rises_setL A
  have rY : Hid (Rises (setL B)) := rises_setL B
  have hxl : (setL A).length ≤ 17592186044416 := Nat.le_trans (setL_len A) hla
  have hyl : (setL B).length ≤ 17592186044416 := Nat.le_trans (setL_len B) hlb
  obtain ⟨a, na, ca, rfl, _⟩ := hA.shape
  obtain ⟨b, nb, cb, rfl, _⟩ := hB.shape
  generalize setL A = X at *
  generalize setL B = Y at *
  clear hA hB
  have mixed := (by kernel_rfl : Try.prog.follows Departure.mixedOrders = true)
  go_enter Try.func37, Try.ntmps37
  go_wp2_with fail
  go_at_call 35
  refine h1.mono ?_
  rintro _ w1 ⟨u1, rfl, r1, x1⟩
  have s1 := r1.sl
  obtain ⟨ax, nx, cx, rfl, hnx⟩ := s1.shape
  clear h1 r1
  go_wp2_with fail
  go_at_call 35
  refine (h2 _ x1).mono ?_
  rintro _ w2 ⟨u2, rfl, r2, x2⟩
  have s2 := r2.sl
  obtain ⟨ay, ny, cy, rfl, hny⟩ := s2.shape
  have sX : Hid (Sl U6 w2 (.slice ax nx cx) X) := s1.ext x2
  have sY : Hid (Sl U6 w2 (.slice ay ny cy) Y) := s2
  have x02 : Ext w w2 := x1.trans x2
  have hcx := s1.len.2.1
  have hcy := s2.len.2.1
  have hnxl : nx ≤ 17592186044416 := by have := hnx.out; omega
  have hnyl : ny ≤ 17592186044416 := by have := hny.out; omega
  clear h2 r2 s1 s2 x1 x2 hxl hyl
  go_wp2
  go_loopw [9, 10, 11] (fun x9 x10 x11 wr => ∃ (i k : Nat) (a9 : Option Addr) (n9 c9 : Nat), i ≤ nx ∧ k ≤ ny ∧ x11 = .int .i64 i ∧ x10 = .int .i64 k ∧ x9 = .slice a9 n9 c9 ∧ Hid (Pk w2 wr X Y has (.slice a9 n9 c9) i k)) (fun _ _ x11 _ => nx - (intOf x11).toNat)
  case atStart => exact ⟨0, 0, none, 0, 0, Nat.zero_le _, Nat.zero_le _, rfl, rfl, rfl, row_nil _ _ _ _, Ext.refl _, fun j _ h => by omega⟩
  case round =>
    obtain ⟨i, k, a9, n9, c9, hi, hk, rfl, rfl, rfl, hP⟩ := hrel
    by_cases hlt : i < nx
    · have hli : (i : Int) < (nx : Int) := by omega
      have hiX : i < X.length := by have := hnx.out; omega
      obtain ⟨gx, ox, rfl, cX⟩ := sX.out.at i hiX
      have hiXh : Hid (i < X.length) := hiX
      obtain ⟨x, hx⟩ : ∃ x, X[i]'hiXh.out = x := ⟨_, rfl⟩
      have hxh : Hid (X[i]'hiXh.out = x) := hx
      rw [hx] at cX
      unfold U6 at cX
      clear hx hiX
      go_wp2
      go_loopw [10] (fun x10 wr => ∃ k : Nat, k ≤ ny ∧ x10 = .int .i64 k ∧ Hid (Pk w2 wr X Y has (.slice a9 n9 c9) i k)) (fun x10 _ => ny - (intOf x10).toNat)
      case atStart => exact ⟨k, hk, rfl, hP.out⟩
      case round =>
        clear hP hk
        obtain ⟨k, hk, rfl, hP⟩ := hrel
        have cX1 := hP.out.x.cell cX
        have hlen : (pickR (X.take i) Y has).length ≤ 17592186044416 := by have := pickR_len (X.take i) Y has; simp at this; omega
        have hn9 : n9 = (pickR (X.take i) Y has).length := hP.out.row.sl.len.1
        have hn9b : n9 ≤ 17592186044416 := by omega
        have hlenh : Hid ((pickR (X.take i) Y has).length ≤ 17592186044416) := hlen
        clear hlen hn9
        by_cases hkl : k < ny
        · have hkY : k < Y.length := by have := hny.out; omega
          obtain ⟨gy, oy, rfl, cY⟩ := sY.out.at k hkY
          have hkYh : Hid (k < Y.length) := hkY
          obtain ⟨y, hy⟩ : ∃ y, Y[k]'hkYh.out = y := ⟨_, rfl⟩
          have hyh : Hid (Y[k]'hkYh.out = y) := hy
          rw [hy] at cY
          unfold U6 at cY
          clear hy hkY
          have cY1 := hP.out.x.cell cY
          have hkd : decide (k < ny) = true := decide_eq_true hkl
          have hki : (k : Int) < (ny : Int) := by omega
          by_cases hyx : y < x
          · have hlt1 : (y.toNat : Int) < (x.toNat : Int) := ltI hyx
            have hyxh : Hid (y < x) := hyx
            clear hyx
            go_wp2
            go_quiet (fail)
            go_wp2
            go_roundw
            case rel =>
              refine ⟨k + 1, hkl, by go_num, Row.ext hP.out.row ((Ext.refl _).drewN nq), hP.out.x.drewN nq, fun j hj hjk i' hi' hii => ?_⟩
              rcases Nat.lt_or_ge j k with h9 | h9
              · exact hP.out.lo j hj h9 i' hi' hii
              · obtain rfl : j = k := by omega
                rw [hyh.out]
                rcases Nat.eq_or_lt_of_le hii with e | e
                · have h5 := hyxh.out; rw [← hxh.out] at h5; simpa only [← e] using h5
                · have h5 := hyxh.out
                  rw [← hxh.out] at h5
                  exact u_trans h5 (rises_lt rX.out hiXh.out hi' e)
            case measure => simp [intOf]; omega
          · have hge1 : decide ((y.toNat : Int) < (x.toNat : Int)) = false := by have := geI hyx; simp only [decide_eq_false_iff_not]; omega
            have hge2 : decide (y.toNat < x.toNat) = false := by have := geI hyx; simp only [decide_eq_false_iff_not]; omega
            have hin : decide (X[i]'hiXh.out ∈ Y) = decide (y = x) := by
              rw [decide_eq_decide, pk_in rY.out hiXh.out (fun j hj hjk => hP.out.lo j hj hjk i hiXh.out (Nat.le_refl _)) (fun hk => by rw [hyh.out, hxh.out]; exact hyx)]
              exact ⟨fun ⟨_, e⟩ => by rw [← hyh.out, ← hxh.out]; exact e, fun e => ⟨hkYh.out, by rw [hyh.out, hxh.out]; exact e⟩⟩
            by_cases hex : y = x
            · have heq : ((y.toNat : Int) == (x.toNat : Int)) = true := by rw [hex]; exact beq_self_eq_true _
              rw [decide_eq_true hex] at hin
              have hnx2 : Hid (pickR (X.take (i + 1)) Y has = pickR (X.take i) Y has ++ if true = has then [X[i]'hiXh.out] else []) := pk_next hiXh.out hin
              clear hyx hex hin
              cases has
              · go_wp2
                go_quiet (fail)
                have xq : Ext wr (wr.drewN nq) := (Ext.refl wr).drewN nq
                have cX2 := xq.cell cX1
                have cY2 := xq.cell cY1
                generalize wr.drewN nq = w5 at *
                go_wp2
                go_quiet (fail)
                go_wp2
                go_roundw
                case rel =>
                  refine ⟨i + 1, k, a9, n9, c9, by omega, by omega, by go_num, rfl, rfl, ?_, (hP.out.x.trans xq).drewN nq, fun j hj hjk i' hi' hii => hP.out.lo j hj hjk i' hi' (by omega)⟩
                  rw [hnx2.out, if_neg (by decide), List.append_nil]
                  exact Row.ext hP.out.row (xq.drewN nq)
                case measure => simp [intOf]; omega
              · go_wp2
                go_quiet (fail)
                have xq : Ext wr (wr.drewN nq) := (Ext.refl wr).drewN nq
                have cX2 := xq.cell cX1
                have cY2 := xq.cell cY1
                generalize wr.drewN nq = w5 at *
                go_wp2
                go_quiet (fail)
                go_wp2_with (at_builtin; refine Hid.out ?_)
                obtain ⟨w9, a9', c9', hr, hp⟩ := push_row ((hP.out.x.trans xq).drewN nq) (Row.ext hP.out.row (xq.drewN nq)) x 22 (by have := hlenh.out; omega)
                refine Lib.wpList_append_run _ rfl _ _ _ _ rfl _ _ rfl rfl _ _ hr ?_
                clear hr
                go_wp2
                go_roundw
                case rel =>
                  refine ⟨i + 1, k, a9', n9 + 1, c9', by omega, by omega, by go_num, rfl, rfl, ?_, hp.out.2.1, fun j hj hjk i' hi' hii => hP.out.lo j hj hjk i' hi' (by omega)⟩
                  rw [hnx2.out, hxh.out]
                  simp only [if_true]
                  exact hp.out.1
                case measure => simp [intOf]; omega
            · have heq : ((y.toNat : Int) == (x.toNat : Int)) = false := by simpa using neI hex
              rw [decide_eq_false hex] at hin
              have hnx2 : Hid (pickR (X.take (i + 1)) Y has = pickR (X.take i) Y has ++ if false = has then [X[i]'hiXh.out] else []) := pk_next hiXh.out hin
              clear hyx hex hin
              cases has
              · go_wp2
                go_quiet (fail)
                have xq : Ext wr (wr.drewN nq) := (Ext.refl wr).drewN nq
                have cX2 := xq.cell cX1
                have cY2 := xq.cell cY1
                generalize wr.drewN nq = w5 at *
                go_wp2
                go_quiet (fail)
                go_wp2_with (at_builtin; refine Hid.out ?_)
                obtain ⟨w9, a9', c9', hr, hp⟩ := push_row ((hP.out.x.trans xq).drewN nq) (Row.ext hP.out.row (xq.drewN nq)) x 22 (by have := hlenh.out; omega)
                refine Lib.wpList_append_run _ rfl _ _ _ _ rfl _ _ rfl rfl _ _ hr ?_
                clear hr
                go_wp2
                go_roundw
                case rel =>
                  refine ⟨i + 1, k, a9', n9 + 1, c9', by omega, by omega, by go_num, rfl, rfl, ?_, hp.out.2.1, fun j hj hjk i' hi' hii => hP.out.lo j hj hjk i' hi' (by omega)⟩
                  rw [hnx2.out, hxh.out]
                  simp only [if_true]
                  exact hp.out.1
                case measure => simp [intOf]; omega
              · go_wp2
                go_quiet (fail)
                have xq : Ext wr (wr.drewN nq) := (Ext.refl wr).drewN nq
                have cX2 := xq.cell cX1
                have cY2 := xq.cell cY1
                generalize wr.drewN nq = w5 at *
                go_wp2
                go_quiet (fail)
                go_wp2
                go_roundw
                case rel =>
                  refine ⟨i + 1, k, a9, n9, c9, by omega, by omega, by go_num, rfl, rfl, ?_, (hP.out.x.trans xq).drewN nq, fun j hj hjk i' hi' hii => hP.out.lo j hj hjk i' hi' (by omega)⟩
                  rw [hnx2.out, if_neg (by decide), List.append_nil]
                  exact Row.ext hP.out.row (xq.drewN nq)
                case measure => simp [intOf]; omega
        · obtain rfl : k = ny := by omega
          have hin : decide (X[i]'hiXh.out ∈ Y) = false := by
            rw [decide_eq_false_iff_not, pk_in rY.out hiXh.out (fun j hj hjk => hP.out.lo j hj hjk i hiXh.out (Nat.le_refl _)) (fun hk => by have := hny.out; omega)]
            rintro ⟨h9, _⟩
            have := hny.out; omega
          have hnx2 : Hid (pickR (X.take (i + 1)) Y has = pickR (X.take i) Y has ++ if false = has then [X[i]'hiXh.out] else []) := pk_next hiXh.out hin
          clear hin
          cases has
          · go_wp2
            go_quiet (fail)
            have xq : Ext wr (wr.drewN nq) := (Ext.refl wr).drewN nq
            have cX2 := xq.cell cX1
            generalize wr.drewN nq = w5 at *
            go_wp2
            go_quiet (fail)
            go_wp2_with (at_builtin; refine Hid.out ?_)
            obtain ⟨w9, a9', c9', hr, hp⟩ := push_row ((hP.out.x.trans xq).drewN nq) (Row.ext hP.out.row (xq.drewN nq)) x 22 (by have := hlenh.out; omega)
            refine Lib.wpList_append_run _ rfl _ _ _ _ rfl _ _ rfl rfl _ _ hr ?_
            clear hr
            go_wp2
            go_roundw
            case rel =>
              refine ⟨i + 1, k, a9', n9 + 1, c9', by omega, by omega, by go_num, rfl, rfl, ?_, hp.out.2.1, fun j hj hjk i' hi' hii => hP.out.lo j hj hjk i' hi' (by omega)⟩
              rw [hnx2.out, hxh.out]
              simp only [if_true]
              exact hp.out.1
            case measure => simp [intOf]; omega
          · go_wp2
            go_quiet (fail)
            have xq : Ext wr (wr.drewN nq) := (Ext.refl wr).drewN nq
            have cX2 := xq.cell cX1
            generalize wr.drewN nq = w5 at *
            go_wp2
            go_quiet (fail)
            go_wp2
            go_roundw
            case rel =>
              refine ⟨i + 1, k, a9, n9, c9, by omega, by omega, by go_num, rfl, rfl, ?_, (hP.out.x.trans xq).drewN nq, fun j hj hjk i' hi' hii => hP.out.lo j hj hjk i' hi' (by omega)⟩
              rw [hnx2.out, if_neg (by decide), List.append_nil]
              exact Row.ext hP.out.row (xq.drewN nq)
            case measure => simp [intOf]; omega
    · obtain rfl : i = nx := by omega
      have hR : Hid (RowE 33 U6 wr (fun q => w2.heap.size ≤ q) (.slice a9 n9 c9) (pickR X Y has)) := by
        have h9 := hP.out.row
        rw [List.take_of_length_le (by have := hnx.out; omega)] at h9
        exact h9
      have hxx := hP.out.x
      clear hP
      go_wp2
      go_ret
      exact ⟨_, rfl, RowE.to hR.out rfl rfl (fun q hq => Nat.le_trans x02.size hq), x02.trans hxx⟩
end Go.Proofs.Ytfcpnglemiiphaa
