/-
  Thin copy: the contract of the document's Header.
-/
import Derived.Test.YtdcfiphffbgocaaGreatDoorQL
import Derived.Test.YtdcfiphffbgocaaGreatDoorWp
import Derived.Test.YtdcfiphffbgocaaGreatDoorKv
namespace Go.Proofs.YtdcfiphffbgocaaGreatDoor
open Go.RowKit Go.Shelf

theorem row_slice {w : World} {S : Nat → Prop} {e : TypeId} {sz n : Nat} {v : Value} {xs : List Value} (h : Row w S e sz v n xs) : ∃ a cap, v = .slice a n cap := by
  rcases h.1.2 with ⟨e, hl⟩ | ⟨g', cap, cur, e, _⟩
  · exact ⟨none, 0, by rw [e, hl]⟩
  · exact ⟨_, _, e⟩
theorem rowB_lit (w : World) (b : UInt8) (v : Int) (hv : v = b.toNat) : RowB (w.alloc (.cells #[.int .u8 v] 5)) (fun k => w.heap.size ≤ k) (.slice (some ⟨w.heap.size, 0, none⟩) 1 1) [b] := by
  refine ⟨⟨by simp, .inr ⟨w.heap.size, 1, _, rfl, Nat.zero_le _, heap_alloc_new w _, by simp, by decide, by simp, by simp [B8, hv]⟩⟩, fun k hk => ?_⟩
  simp only [Value.ownBlock, Option.some.injEq] at hk
  omega
def hdrB (mb : Bool) (c n k : Nat) : List UInt8 := (if mb then tagM c n else tagB c n) :: lenL k
theorem nb_div_pos {k j : Nat} (h : j < nb k) : 0 < k / 256 ^ j := by
  rcases Nat.eq_zero_or_pos (k / 256 ^ j) with h0 | h0
  · have h1 : k < 256 ^ j := by
      rcases Nat.div_eq_zero_iff.1 h0 with h2 | h2
      · exact absurd h2 (by have := Nat.pow_pos (n := j) (show 0 < 256 by decide); omega)
      · exact h2
    have := nb_le k j h1
    omega
  · exact h0
theorem nb_div_zero (k : Nat) : k / 256 ^ nb k = 0 := Nat.div_eq_of_lt (nb_lt k)

set_option maxRecDepth 100000 in
set_option maxHeartbeats 4000000 in
theorem Header_any (w : World) (c n k : Nat) (mb : Bool) (hc : c ≤ 3) (hn : n < 31) (hk : k < 4611686018427387904) :
    Calls Tryz.prog 54 #[.int .i8 c, .bool mb, .int .i64 n, .int .i64 k] w fun x w' => ∃ u, x = .returned u ∧ RowB w' (fun g => w.heap.size ≤ g) u (hdrB mb c n k) ∧ Ext w w' := by
  have hL : Hid (lenL k = if k < 128 then [UInt8.ofNat k] else UInt8.ofNat (128 + nb k) :: bigend (nb k) k) := rfl
  have hH : Hid (hdrB mb c n k = (if mb then tagM c n else tagB c n) :: lenL k) := rfl
  obtain ⟨tb, htb⟩ : ∃ tb : UInt8, (if mb then tagM c n else tagB c n) = tb := ⟨_, rfl⟩
  rw [htb] at hH
  have hB := tagB_toNat c n hc hn
  have hM := tagM_toNat c n hc hn
  have hrow := fun v hv => rowB_lit w tb v hv
  have htv : ∀ v : Int, v = (if mb = true then 64 * (c : Int) + n + 32 else 64 * (c : Int) + n) → v = tb.toNat := by
    rintro v rfl
    rw [← htb]
    cases mb
    · simp [hB]
    · simp [hM]; omega
  clear htb hB hM
  have hrow2 : Hid (∀ v : Int, v = (if mb = true then 64 * (c : Int) + n + 32 else 64 * (c : Int) + n) → RowB (w.alloc (.cells #[.int .u8 v] 5)) (fun k => w.heap.size ≤ k) (.slice (some ⟨w.heap.size, 0, none⟩) 1 1) [tb]) := fun v hv => hrow v (htv v hv)
  clear hrow htv
  by_cases h : k < 128
  · cases mb
    · go_enter Tryz.func54, Tryz.ntmps54
      go_wp2_with (at_builtin; refine Hid.out ?_)
      refine wpList_byte rfl _ _ rfl _ _ _ _ _ (hrow2.out _ ?hv) rfl _ rfl (by simp) (UInt8.ofNat k) ?hb ?hl ?_
      case hv => simp <;> omega
      case hb => simp <;> omega
      case hl => simp
      intro g cap w2 h1 h2
      go_wp2
      go_ret
      rw [hH.out, hL.out, if_pos h]
      exact ⟨_, rfl, h1.to rfl rfl (fun q hq => hq.elim (fun h => h) (fun h => by simp at h; omega)), ((Ext.refl w).alloc _).then h2 (fun _ h => h)⟩
    · go_enter Tryz.func54, Tryz.ntmps54
      go_wp2_with (at_builtin; refine Hid.out ?_)
      refine wpList_byte rfl _ _ rfl _ _ _ _ _ (hrow2.out _ ?hv) rfl _ rfl (by simp) (UInt8.ofNat k) ?hb ?hl ?_
      case hv => simp <;> omega
      case hb => simp <;> omega
      case hl => simp
      intro g cap w2 h1 h2
      go_wp2
      go_ret
      rw [hH.out, hL.out, if_pos h]
      exact ⟨_, rfl, h1.to rfl rfl (fun q hq => hq.elim (fun h => h) (fun h => by simp at h; omega)), ((Ext.refl w).alloc _).then h2 (fun _ h => h)⟩
  · cases mb
    · go_enter Tryz.func54, Tryz.ntmps54
      go_wp2
      go_loopw [3, 11, 12] (fun nv lv _ wr => ∃ j q : Nat, j ≤ nb k ∧ nv = .int .i64 q ∧ q = k / 256 ^ j ∧ RowB wr (fun g => w.heap.size + 1 ≤ g) lv (bigend j k) ∧ Ext (w.alloc (.cells #[.int .u8 (64 * (c : Int) + n)] 5)) wr) (fun nv _ _ _ => (intOf nv).toNat)
      case atStart => exact ⟨0, k, Nat.zero_le _, rfl, by simp, row_nil _ _ _ _, Ext.refl _⟩
      case round =>
        obtain ⟨j, q, hj, rfl, hq, hr, hx⟩ := hrel
        have hqh : Hid (q = k / 256 ^ j) := hq
        have hjk := nb_le k 8 (by omega)
        have hql : q < 4611686018427387904 := Nat.lt_of_le_of_lt (by rw [hq]; exact Nat.div_le_self _ _) hk
        have hjnb : 0 < q → j < nb k := fun h0 => by
          rcases Nat.lt_or_ge j (nb k) with h1 | h1
          · exact h1
          · have : j = nb k := by omega
            rw [hq, this, nb_div_zero] at h0; omega
        by_cases h0 : 0 < q
        · have hj1 := hjnb h0
          have w1 : ((q : Int)).tmod 256 = ((q % 256 : Nat) : Int) := by rw [Int.tmod_eq_emod_of_nonneg (by omega)]; omega
          have w2 : ((q : Int)).tdiv 256 = ((q / 256 : Nat) : Int) := by rw [Int.tdiv_eq_ediv_of_nonneg (by omega)]; omega
          have hbq : (UInt8.ofNat q).toNat = q % 256 := by simp
          obtain ⟨ar, cr, hlr⟩ := row_slice hr
          rw [bigend_length] at hlr
          subst hlr
          have hrm := rowB_lit wr (UInt8.ofNat q) ((q % 256 : Nat) : Int) (by rw [hbq])
          obtain ⟨w3, a3, cap3, hrun, r3, o3⟩ := run_append8 (wr.alloc (.cells #[.int .u8 ((q % 256 : Nat) : Int)] 5)) _ 22 22 _ [UInt8.ofNat q] hrm (.slice ar j cr) j (bigend j k) (by have := src8v (RowB.sl (Row.alloc hr (.cells #[.int .u8 ((q % 256 : Nat) : Int)] 5))); rwa [bigend_length] at this) (by rw [bigend_length]) (by simp [bigend_length]; omega)
          clear hq hjnb
          go_wp2_with (at_builtin; refine Hid.out ?_)
          refine Lib.wpList_append_run _ rfl _ _ _ _ rfl _ _ rfl rfl _ _ hrun ?_
          clear hrun
          go_wp2
          go_roundw
          case rel =>
            refine ⟨j + 1, q / 256, hj1, by go_num, by rw [hqh.out, Nat.div_div_eq_div_mul, Nat.pow_succ], ?_, hx.trans (((Ext.refl _).alloc _).then o3 (fun _ h => h))⟩
            refine RowB.to r3 rfl ?_ ?_
            · rw [bigend, ← hqh.out]; rfl
            · have := hx.size
              simp only [World.size_alloc] at this
              rintro g (hg | hg)
              · omega
              · simp at hg; omega
          case measure => simp [intOf]; omega
        · obtain rfl : q = 0 := by omega
          have hjn : j = nb k := by
            rcases Nat.lt_or_ge j (nb k) with h1 | h1
            · have := nb_div_pos h1; omega
            · omega
          subst hjn
          obtain ⟨ar, cr, hlr⟩ := row_slice hr
          rw [bigend_length] at hlr
          subst hlr
          obtain ⟨N, hN⟩ : ∃ N, nb k = N := ⟨_, rfl⟩
          rw [hN] at hr hjk hL
          simp only [hN]
          clear hN hq hqh hjnb hj
          have hrow3 := Row.ext (hrow2.out _ ?hv) hx
          case hv => simp <;> omega
          go_wp2_with (at_builtin; refine Hid.out ?_)
          refine wpList_byte rfl _ _ rfl _ _ _ _ _ (Row.min hrow3) rfl _ rfl rfl (UInt8.ofNat (128 + N)) ?hb ?hl ?_
          case hb => simp <;> omega
          case hl => simp
          intro g cap w4 h4 o4
          have hl4 : RowB w4 (fun g => w.heap.size + 1 ≤ g) (.slice ar N cr) (bigend N k) := Row.kept hr o4 (fun g hg ho => by
            simp only [own, Value.ownBlock, Option.some.injEq] at ho
            omega)
          obtain ⟨w5, a5, cap5, hrun, r5, o5⟩ := run_append8 w4 _ 22 22 _ _ h4 (.slice ar N cr) N (bigend N k) (by have := src8v (RowB.sl hl4); rwa [bigend_length] at this) (by rw [bigend_length]) (by simp [bigend_length]; omega)
          go_wp2_with (at_builtin; refine Hid.out ?_)
          refine Lib.wpList_append_run _ rfl _ _ _ _ rfl _ _ rfl rfl _ _ hrun ?_
          clear hrun
          go_wp2
          go_ret
          rw [hH.out, hL.out, if_neg h]
          have e0 : ∀ g, own (.slice (some ⟨w.heap.size, 0, none⟩) 1 1) g → w.heap.size ≤ g := fun g hg => by
            simp only [own, Value.ownBlock, Option.some.injEq] at hg
            omega
          have hsz := hx.size
          simp only [World.size_alloc] at hsz
          refine ⟨_, rfl, RowB.to r5 rfl (by simp) ?_, ?_⟩
          · have := o4.size
            rintro q ((hq | hq) | hq)
            · exact e0 q hq
            · omega
            · omega
          · refine Ext.then (Ext.then (((Ext.refl w).alloc _).trans hx) o4 e0) o5 ?_
            rintro q (hq | hq)
            · exact e0 q hq
            · omega
    · go_enter Tryz.func54, Tryz.ntmps54
      go_wp2
      go_loopw [3, 11, 12] (fun nv lv _ wr => ∃ j q : Nat, j ≤ nb k ∧ nv = .int .i64 q ∧ q = k / 256 ^ j ∧ RowB wr (fun g => w.heap.size + 1 ≤ g) lv (bigend j k) ∧ Ext (w.alloc (.cells #[.int .u8 (64 * (c : Int) + n + 32)] 5)) wr) (fun nv _ _ _ => (intOf nv).toNat)
      case atStart => exact ⟨0, k, Nat.zero_le _, rfl, by simp, row_nil _ _ _ _, Ext.refl _⟩
      case round =>
        obtain ⟨j, q, hj, rfl, hq, hr, hx⟩ := hrel
        have hqh : Hid (q = k / 256 ^ j) := hq
        have hjk := nb_le k 8 (by omega)
        have hql : q < 4611686018427387904 := Nat.lt_of_le_of_lt (by rw [hq]; exact Nat.div_le_self _ _) hk
        have hjnb : 0 < q → j < nb k := fun h0 => by
          rcases Nat.lt_or_ge j (nb k) with h1 | h1
          · exact h1
          · have : j = nb k := by omega
            rw [hq, this, nb_div_zero] at h0; omega
        by_cases h0 : 0 < q
        · have hj1 := hjnb h0
          have w1 : ((q : Int)).tmod 256 = ((q % 256 : Nat) : Int) := by rw [Int.tmod_eq_emod_of_nonneg (by omega)]; omega
          have w2 : ((q : Int)).tdiv 256 = ((q / 256 : Nat) : Int) := by rw [Int.tdiv_eq_ediv_of_nonneg (by omega)]; omega
          have hbq : (UInt8.ofNat q).toNat = q % 256 := by simp
          obtain ⟨ar, cr, hlr⟩ := row_slice hr
          rw [bigend_length] at hlr
          subst hlr
          have hrm := rowB_lit wr (UInt8.ofNat q) ((q % 256 : Nat) : Int) (by rw [hbq])
          obtain ⟨w3, a3, cap3, hrun, r3, o3⟩ := run_append8 (wr.alloc (.cells #[.int .u8 ((q % 256 : Nat) : Int)] 5)) _ 22 22 _ [UInt8.ofNat q] hrm (.slice ar j cr) j (bigend j k) (by have := src8v (RowB.sl (Row.alloc hr (.cells #[.int .u8 ((q % 256 : Nat) : Int)] 5))); rwa [bigend_length] at this) (by rw [bigend_length]) (by simp [bigend_length]; omega)
          clear hq hjnb
          go_wp2_with (at_builtin; refine Hid.out ?_)
          refine Lib.wpList_append_run _ rfl _ _ _ _ rfl _ _ rfl rfl _ _ hrun ?_
          clear hrun
          go_wp2
          go_roundw
          case rel =>
            refine ⟨j + 1, q / 256, hj1, by go_num, by rw [hqh.out, Nat.div_div_eq_div_mul, Nat.pow_succ], ?_, hx.trans (((Ext.refl _).alloc _).then o3 (fun _ h => h))⟩
            refine RowB.to r3 rfl ?_ ?_
            · rw [bigend, ← hqh.out]; rfl
            · have := hx.size
              simp only [World.size_alloc] at this
              rintro g (hg | hg)
              · omega
              · simp at hg; omega
          case measure => simp [intOf]; omega
        · obtain rfl : q = 0 := by omega
          have hjn : j = nb k := by
            rcases Nat.lt_or_ge j (nb k) with h1 | h1
            · have := nb_div_pos h1; omega
            · omega
          subst hjn
          obtain ⟨ar, cr, hlr⟩ := row_slice hr
          rw [bigend_length] at hlr
          subst hlr
          obtain ⟨N, hN⟩ : ∃ N, nb k = N := ⟨_, rfl⟩
          rw [hN] at hr hjk hL
          simp only [hN]
          clear hN hq hqh hjnb hj
          have hrow3 := Row.ext (hrow2.out _ ?hv) hx
          case hv => simp <;> omega
          go_wp2_with (at_builtin; refine Hid.out ?_)
          refine wpList_byte rfl _ _ rfl _ _ _ _ _ (Row.min hrow3) rfl _ rfl rfl (UInt8.ofNat (128 + N)) ?hb ?hl ?_
          case hb => simp <;> omega
          case hl => simp
          intro g cap w4 h4 o4
          have hl4 : RowB w4 (fun g => w.heap.size + 1 ≤ g) (.slice ar N cr) (bigend N k) := Row.kept hr o4 (fun g hg ho => by
            simp only [own, Value.ownBlock, Option.some.injEq] at ho
            omega)
          obtain ⟨w5, a5, cap5, hrun, r5, o5⟩ := run_append8 w4 _ 22 22 _ _ h4 (.slice ar N cr) N (bigend N k) (by have := src8v (RowB.sl hl4); rwa [bigend_length] at this) (by rw [bigend_length]) (by simp [bigend_length]; omega)
          go_wp2_with (at_builtin; refine Hid.out ?_)
          refine Lib.wpList_append_run _ rfl _ _ _ _ rfl _ _ rfl rfl _ _ hrun ?_
          clear hrun
          go_wp2
          go_ret
          rw [hH.out, hL.out, if_neg h]
          have e0 : ∀ g, own (.slice (some ⟨w.heap.size, 0, none⟩) 1 1) g → w.heap.size ≤ g := fun g hg => by
            simp only [own, Value.ownBlock, Option.some.injEq] at hg
            omega
          have hsz := hx.size
          simp only [World.size_alloc] at hsz
          refine ⟨_, rfl, RowB.to r5 rfl (by simp) ?_, ?_⟩
          · have := o4.size
            rintro q ((hq | hq) | hq)
            · exact e0 q hq
            · omega
            · omega
          · refine Ext.then (Ext.then (((Ext.refl w).alloc _).trans hx) o4 e0) o5 ?_
            rintro q (hq | hq)
            · exact e0 q hq
            · omega
end Go.Proofs.YtdcfiphffbgocaaGreatDoor

/-
  The document's items: text, made, twoTag.
-/
namespace Go.Proofs.YtdcfiphffbgocaaGreatDoor
open Go.RowKit Go.Shelf

theorem fresh_up {w w2 : World} (y : Ext w w2) : ∀ q, Up (fun g => w.heap.size ≤ g) w2.heap.size q → w.heap.size ≤ q := by
  rintro q (h | h)
  · exact h
  · exact Nat.le_trans y.size h
/-- bytes appended to a row of one's own -/
theorem app_fresh (w0 w : World) (y : Ext w0 w) (tx ty : TypeId) (v x : Value) (l m : List UInt8) (n : Nat) (hr : RowB w (fun g => w0.heap.size ≤ g) v l) (hs : Src Tryz.prog 1 tx x n (m.map B8) w) (hn : n = m.length) (hb : l.length + m.length ≤ 140737488355328) :
    ∃ w' a cap, (Builtin.append_ #[22, tx] ty #[v, x]).run Tryz.prog w = .ok (.slice a (l.length + n) cap) w' ∧ RowB w' (fun g => w0.heap.size ≤ g) (.slice a (l.length + n) cap) (l ++ m) ∧ Ext w0 w' := by
  obtain ⟨w', a, cap, h1, h2, h3⟩ := run_append8 w _ tx ty v l hr x n m hs hn hb
  exact ⟨w', a, cap, h1, RowB.to h2 rfl rfl (fresh_up y), y.then h3 (fun _ h => h)⟩
set_option maxRecDepth 100000 in
set_option maxHeartbeats 4000000 in
theorem text11_any (w0 w : World) (y0 : Ext w0 w) (c n t : Nat) (s : ByteArray) (hc : c ≤ 3) (hn : n < 31) (ht : t = 64 * c + n) (hs : s.size ≤ 1099511627776) :
    Calls Tryz.prog 67 #[.int .i8 c, .int .i64 n, .string s] w fun x w' => ∃ u, x = .returned u ∧ RowB w' (fun g => w0.heap.size ≤ g) u (bText t (byt s)) ∧ Ext w w' := by
  have hH := fun W => Header_any W c n s.size false hc hn (by omega)
  have hB : Hid (hdrB false c n s.size ++ byt s = bText t (byt s)) := by
    show _ = _
    rw [ht]; simp [hdrB, bText, tagB, byt_length]
  have hl : Hid ((hdrB false c n s.size).length ≤ 12) := by
    show _ ≤ _
    simp [hdrB, lenL_length]; have := lenOct_le s.size (by omega); omega
  go_enter Tryz.func67, Tryz.ntmps67
  go_wp2_with (first
    | (go_at_call 54; refine (hH w).mono ?_; rintro _ w2 ⟨u, rfl, hu, y2⟩)
    | (at_builtin; refine Hid.out ?_))
  obtain ⟨w3, a3, cap3, hrun, r3, y3⟩ := app_fresh w w2 y2 9 22 u _ _ (byt s) _ hu (src8s w2 s) (byt_length s).symm (by have := hl.out; rw [byt_length]; omega)
  refine Lib.wpList_append_run _ rfl _ _ _ _ rfl _ _ rfl rfl _ _ hrun ?_
  clear hrun
  rw [hB.out] at r3
  go_wp2
  go_ret
  exact ⟨_, rfl, RowB.to r3 rfl rfl (fun q h => Nat.le_trans y0.size h), y3⟩
set_option maxRecDepth 100000 in
set_option maxHeartbeats 4000000 in
theorem made11_any (w0 w : World) (y0 : Ext w0 w) (c n t : Nat) (v : Value) (l : List UInt8) (hv : Sl w v l) (hc : c ≤ 3) (hn : n < 31) (ht : t = 64 * c + 32 + n) (hs : l.length ≤ 1099511627776) :
    Calls Tryz.prog 66 #[.int .i8 c, .int .i64 n, v] w fun x w' => ∃ u, x = .returned u ∧ RowB w' (fun g => w0.heap.size ≤ g) u (bText t l) ∧ Ext w w' := by
  have hH := fun W => Header_any W c n l.length true hc hn (by omega)
  have hB : Hid (hdrB true c n l.length ++ l = bText t l) := by
    show _ = _
    rw [ht]; simp [hdrB, bText, tagM]
  have hl : Hid ((hdrB true c n l.length).length ≤ 12) := by
    show _ ≤ _
    simp [hdrB, lenL_length]; have := lenOct_le l.length (by omega); omega
  have hvh : Hid (Sl w v l) := hv
  obtain ⟨a, cap, rfl, -⟩ := hv
  obtain ⟨k, hk⟩ : ∃ k, l.length = k := ⟨_, rfl⟩
  have hkh : Hid (l.length = k) := hk
  rw [hk] at hH hvh hl hB ⊢
  clear hk
  go_enter Tryz.func66, Tryz.ntmps66
  go_wp2_with (first
    | (go_at_call 54; refine (hH w).mono ?_; rintro _ w2 ⟨u, rfl, hu, y2⟩)
    | (at_builtin; refine Hid.out ?_))
  obtain ⟨w3, a3, cap3, hrun, r3, y3⟩ := app_fresh w w2 y2 22 22 u (.slice a k cap) _ l k hu (by have h9 := src8v (hvh.out.ext y2); rwa [hkh.out] at h9) hkh.out.symm (by have := hl.out; have := hkh.out; omega)
  refine Lib.wpList_append_run _ rfl _ _ _ _ rfl _ _ rfl rfl _ _ hrun ?_
  clear hrun
  rw [hB.out] at r3
  go_wp2
  go_ret
  exact ⟨_, rfl, RowB.to r3 rfl rfl (fun q h => Nat.le_trans y0.size h), y3⟩
def twoN (k : Int) : Nat := if k = 3 then 3 else if k = 5 then 5 else if k = 6 then 6 else 8
set_option maxRecDepth 100000 in
theorem twoTag_any (w : World) (k : Int) : Calls Tryz.prog 68 #[.int .i8 k] w fun x w' => x = .returned (.int .i64 (twoN k)) ∧ w' = w := by
  have h : Hid (twoN k = if k = 3 then 3 else if k = 5 then 5 else if k = 6 then 6 else 8) := rfl
  go_enter Tryz.func68, Tryz.ntmps68
  go_wp2
  all_goals go_ret
  all_goals refine ⟨?_, rfl⟩
  all_goals rw [h.out]
  all_goals simp_all
theorem row_shape {w : World} {S : Nat → Prop} {u : Value} {l : List UInt8} (h : RowB w S u l) : ∃ a n cap, u = .slice a n cap ∧ Hid (l.length = n) := by
  obtain ⟨a, cap, rfl⟩ := row_slice h
  exact ⟨a, _, cap, by rw [], rfl⟩
theorem bText_le (t : Nat) (s : List UInt8) (h : s.length ≤ 1099511627776) : (bText t s).length ≤ s.length + 10 := by
  rw [bText_len]; have := lenOct_le s.length (by omega); omega
theorem text_sh (w0 w : World) (y0 : Ext w0 w) (c n t : Nat) (s : ByteArray) (hc : c ≤ 3) (hn : n < 31) (ht : t = 64 * c + n) (hs : s.size ≤ 1099511627776) :
    Calls Tryz.prog 67 #[.int .i8 c, .int .i64 n, .string s] w fun x w' => ∃ a m k, x = .returned (.slice a m k) ∧ RowB w' (fun g => w0.heap.size ≤ g) (.slice a m k) (bText t (byt s)) ∧ Hid ((bText t (byt s)).length = m) ∧ Hid (m ≤ s.size + 10) ∧ Ext w w' := by
  refine (text11_any w0 w y0 c n t s hc hn ht hs).mono ?_
  rintro _ w' ⟨u, rfl, hu, y⟩
  obtain ⟨a, m, k, rfl, hm⟩ := row_shape hu
  exact ⟨a, m, k, rfl, hu, hm, by show _ ≤ _; have := hm.out; have h2 := bText_le t (byt s) (by rw [byt_length]; exact hs); rw [byt_length] at h2; omega, y⟩
theorem made_sh (w0 w : World) (y0 : Ext w0 w) (c n t : Nat) (a0 : Option Addr) (m0 k0 : Nat) (l : List UInt8) (S : Nat → Prop) (hv : RowB w S (.slice a0 m0 k0) l) (hm0 : l.length = m0) (hc : c ≤ 3) (hn : n < 31) (ht : t = 64 * c + 32 + n) (hs : m0 ≤ 1099511627776) :
    Calls Tryz.prog 66 #[.int .i8 c, .int .i64 n, .slice a0 m0 k0] w fun x w' => ∃ a m k, x = .returned (.slice a m k) ∧ RowB w' (fun g => w0.heap.size ≤ g) (.slice a m k) (bText t l) ∧ Hid ((bText t l).length = m) ∧ Hid (m ≤ m0 + 10) ∧ Ext w w' := by
  refine (made11_any w0 w y0 c n t _ l hv.sl hc hn ht (by omega)).mono ?_
  rintro _ w' ⟨u, rfl, hu, y⟩
  obtain ⟨a, m, k, rfl, hm⟩ := row_shape hu
  exact ⟨a, m, k, rfl, hu, hm, by show _ ≤ _; have := hm.out; have h2 := bText_le t l (by omega); omega, y⟩
/-- one row of bytes appended to another, of one's own -/
theorem wp_app {ops : Array Oper} {rest : List Oper} {o : Oper} {a : Act} {Q : Exit → Act → World → Prop} (hgd : o.guard = none) (s x : Operand)
    (ho : o.op = .call { callee := .builtin .append, args := #[s, x], argTypes := #[22, 22] })
    (w0 w : World) (y : Ext w0 w) (v : Value) (a2 : Option Addr) (n k2 nl : Nat) (l m : List UInt8) (S : Nat → Prop) (hr : RowB w (fun g => w0.heap.size ≤ g) v l) (hx : RowB w S (.slice a2 n k2) m) (hn : m.length = n) (hl : l.length = nl) (hb : nl + n ≤ 140737488355328) (e1 : a.eval s = v) (e2 : a.eval x = .slice a2 n k2)
    (h : ∀ a' n' cap w', RowB w' (fun g => w0.heap.size ≤ g) (.slice a' n' cap) (l ++ m) → Hid ((l ++ m).length = n') → Hid (n' = nl + n) → Ext w0 w' → wpList Tryz.prog ops Q rest (a.put o.dst (.slice a' n' cap)) w') : wpList Tryz.prog ops Q (o :: rest) a w := by
  subst hl
  obtain ⟨w', a', cap, hrun, r, y'⟩ := app_fresh w0 w y 22 o.type v (.slice a2 n k2) l m n hr (by have h9 := src8v hx.sl; rwa [hn] at h9) hn.symm (by omega)
  exact Lib.wpList_append_run _ hgd _ _ _ _ ho _ _ e1 e2 _ _ hrun (h a' _ cap w' r (by show _ = _; rw [List.length_append, hn]) rfl y')
theorem bMids_take (ms : List ByteArray) (k : Nat) (h : k < ms.length) : bMids (ms.take (k + 1)) = bMids (ms.take k) ++ bText 129 (byt ms[k]) := by
  induction ms generalizing k with
  | nil => simp at h
  | cons m r ih =>
    cases k with
    | zero => simp [bMids]
    | succ k =>
      have hk : k < r.length := by simpa using h
      simp only [List.take_succ_cons, bMids, List.getElem_cons_succ]
      rw [ih k hk, List.append_assoc]
theorem bMids_le (ms : List ByteArray) (k : Nat) : (bMids (ms.take k)).length ≤ (bMids ms).length := by
  induction ms generalizing k with
  | nil => simp [bMids]
  | cons m r ih =>
    cases k with
    | zero => simp [bMids]
    | succ k => simp only [List.take_succ_cons, bMids, List.length_append]; have := ih k; omega
theorem part_long (t : Nat) (d s : List UInt8) (ms : List ByteArray) (k : Nat) (e : List UInt8) {n left : Nat} (hn : (s ++ bMids (ms.take k)).length = n) (h : left < n) : left < (bText t (bText 4 d ++ bText 48 (s ++ bMids ms ++ e))).length := by
  have := bMids_le ms k
  simp only [List.length_append, bText_len] at hn ⊢
  omega
/-- a row of bytes of one's own -/
def Fr (w1 : World) (M : Nat) (l : List UInt8) (u : Value) (W : World) : Prop := ∃ a n k, u = .slice a n k ∧ RowB W (fun g => w1.heap.size ≤ g) (.slice a n k) l ∧ Hid (l.length = n) ∧ Hid (n ≤ M) ∧ Ext w1 W
/-- what Item tells of a filter whose bytes are B -/
def ItE (w : World) (B : List UInt8) (left : Nat) (e : Ending) (w' : World) : Prop := ∃ u b ok, e = .returned (.tuple #[u, .bool ok]) ∧ RowB w' (fun g => w.heap.size ≤ g) u b ∧ Ext w w' ∧ ok = decide (B.length ≤ left) ∧ (ok = true → b = B) ∧ b.length ≤ 4000000
theorem ItE.end_ {w w1 w' : World} {B : List UInt8} {left n : Nat} {u : Value} {ok : Bool} (x : Ext w w1) (r : RowB w' (fun g => w1.heap.size ≤ g) u B) (y : Ext w1 w') (hn : B.length = n) (hk : ok = decide (n ≤ left)) (hb : n ≤ 4000000) : ItE w B left (.returned (.tuple #[u, .bool ok])) w' :=
  ⟨u, B, ok, rfl, RowB.to r rfl rfl (fun _ h => Nat.le_trans x.size h), x.trans y, by rw [hk, hn], fun _ => rfl, by omega⟩
theorem ItE.no {w w1 w' : World} {B : List UInt8} {left : Nat} (x : Ext w w1) (y : Ext w1 w') (hk : left < B.length) : ItE w B left (.returned (.tuple #[.slice none 0 0, .bool false])) w' :=
  ⟨_, [], false, rfl, row_nil _ _ _ _, x.trans y, (decide_eq_false (by omega)).symm, fun h => (by cases h), (by simp)⟩
end Go.Proofs.YtdcfiphffbgocaaGreatDoor
