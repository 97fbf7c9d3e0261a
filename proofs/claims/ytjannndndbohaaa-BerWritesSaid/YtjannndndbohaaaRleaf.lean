/-
  The contracts of the document's may, Header, Octets.
-/
import Derived.Test.YtjannndndbohaaaRm
import Derived.Test.YtjannndndbohaaaBnum
import Derived.Test.YtjannndndbohaaaBref
import Derived.Test.YtjannndndbohaaaBeach
namespace Go.Proofs.Ytjannndndbohaaa
open Go.RowKit Go.Shelf

set_option maxHeartbeats 400000 in
theorem may_any (c n : Int) (w : World) :
    Calls Try.prog 64 #[.int .i8 c, .int .i64 n] w fun x w' => x = .returned (.bool (mayB c n)) ∧ w' = w := by
  have h : Hid (mayB c n = decide (0 ≤ c ∧ c ≤ 3 ∧ 0 ≤ n ∧ n < 31)) := rfl
  go_enter Try.func64, Try.ntmps64
  go_wp2
  all_goals go_ret
  all_goals refine ⟨ret_b ?_, rfl⟩
  all_goals rw [h.out]
  all_goals first
    | exact (decide_eq_true (by omega)).symm
    | exact (decide_eq_false (by omega)).symm
    | exact decide_eq_decide.2 (by omega)

theorem rowB_lit (w : World) (b : UInt8) (v : Int) (hv : v = b.toNat) : RowB (w.alloc (.cells #[.int .u8 v] 5)) (fun k => w.heap.size ≤ k) (.slice (some ⟨w.heap.size, 0, none⟩) 1 1) [b] := by
  refine ⟨⟨by simp, .inr ⟨w.heap.size, 1, _, rfl, Nat.zero_le _, heap_alloc_new w _, by simp, by decide, by simp, by simp [B8, hv]⟩⟩, fun k hk => ?_⟩
  simp only [Value.ownBlock, Option.some.injEq] at hk
  omega
def hdrB (mb : Bool) (c n k : Nat) : List UInt8 := (if mb then tagM c n else tagB c n) :: lenL k
theorem nb_div_pos {k j : Nat} (h : j < nb k) : 0 < k / 256 ^ j := by
  rcases Nat.eq_zero_or_pos (k / 256 ^ j) with h0 | h0
  · have h1 : k < 256 ^ j := by
      rcases Nat.div_eq_zero_iff.1 h0 with h2 | h2
      · exact absurd h2 (by have := Nat.pow_pos (n := j) (show 0 < 256 by decide); omega)
      · exact h2
    have := nb_le k j h1
    omega
  · exact h0
theorem nb_div_zero (k : Nat) : k / 256 ^ nb k = 0 := Nat.div_eq_of_lt (nb_lt k)

set_option maxRecDepth 100000 in
set_option maxHeartbeats 4000000 in
theorem Header_any (w : World) (c n k : Nat) (mb : Bool) (hc : c ≤ 3) (hn : n < 31) (hk : k < 4611686018427387904) :
    Calls Try.prog 66 #[.int .i8 c, .bool mb, .int .i64 n, .int .i64 k] w fun x w' => ∃ u, x = .returned u ∧ RowB w' (fun g => w.heap.size ≤ g) u (hdrB mb c n k) ∧ Ext w w' := by
  have hL : Hid (lenL k = if k < 128 then [UInt8.ofNat k] else UInt8.ofNat (128 + nb k) :: bigend (nb k) k) := rfl
  have hH : Hid (hdrB mb c n k = (if mb then tagM c n else tagB c n) :: lenL k) := rfl
  obtain ⟨tb, htb⟩ : ∃ tb : UInt8, (if mb then tagM c n else tagB c n) = tb := ⟨_, rfl⟩
  rw [htb] at hH
  have hB := tagB_toNat c n hc hn
  have hM := tagM_toNat c n hc hn
  have hrow := fun v hv => rowB_lit w tb v hv
  have htv : ∀ v : Int, v = (if mb = true then 64 * (c : Int) + n + 32 else 64 * (c : Int) + n) → v = tb.toNat := by
    rintro v rfl
    rw [← htb]
    cases mb
    · simp [hB]
    · simp [hM]; omega
  clear htb hB hM
  have hrow2 : Hid (∀ v : Int, v = (if mb = true then 64 * (c : Int) + n + 32 else 64 * (c : Int) + n) → RowB (w.alloc (.cells #[.int .u8 v] 5)) (fun k => w.heap.size ≤ k) (.slice (some ⟨w.heap.size, 0, none⟩) 1 1) [tb]) := fun v hv => hrow v (htv v hv)
  clear hrow htv
  by_cases h : k < 128
  · cases mb
    · go_enter Try.func66, Try.ntmps66
      go_wp2_with (at_builtin; refine Hid.out ?_)
      refine wpList_byte rfl _ _ rfl _ _ _ _ _ (hrow2.out _ ?hv) rfl _ rfl (by simp) (UInt8.ofNat k) ?hb ?hl ?_
      case hv => simp <;> omega
      case hb => simp <;> omega
      case hl => simp
      intro g cap w2 h1 h2
      go_wp2
      go_ret
      rw [hH.out, hL.out, if_pos h]
      exact ⟨_, rfl, h1.to rfl rfl (fun q hq => hq.elim (fun h => h) (fun h => by simp at h; omega)), ((Ext.refl w).alloc _).then h2 (fun _ h => h)⟩
    · go_enter Try.func66, Try.ntmps66
      go_wp2_with (at_builtin; refine Hid.out ?_)
      refine wpList_byte rfl _ _ rfl _ _ _ _ _ (hrow2.out _ ?hv) rfl _ rfl (by simp) (UInt8.ofNat k) ?hb ?hl ?_
      case hv => simp <;> omega
      case hb => simp <;> omega
      case hl => simp
      intro g cap w2 h1 h2
      go_wp2
      go_ret
      rw [hH.out, hL.out, if_pos h]
      exact ⟨_, rfl, h1.to rfl rfl (fun q hq => hq.elim (fun h => h) (fun h => by simp at h; omega)), ((Ext.refl w).alloc _).then h2 (fun _ h => h)⟩
  · cases mb
    · go_enter Try.func66, Try.ntmps66
      go_wp2
      go_loopw [3, 11, 12] (fun nv lv _ wr => ∃ j q : Nat, j ≤ nb k ∧ nv = .int .i64 q ∧ q = k / 256 ^ j ∧ RowB wr (fun g => w.heap.size + 1 ≤ g) lv (bigend j k) ∧ Ext (w.alloc (.cells #[.int .u8 (64 * (c : Int) + n)] 5)) wr) (fun nv _ _ _ => (intOf nv).toNat)
      case atStart => exact ⟨0, k, Nat.zero_le _, rfl, by simp, row_nil _ _ _ _, Ext.refl _⟩
      case round =>
        obtain ⟨j, q, hj, rfl, hq, hr, hx⟩ := hrel
        have hqh : Hid (q = k / 256 ^ j) := hq
        have hjk := nb_le k 8 (by omega)
        have hql : q < 4611686018427387904 := Nat.lt_of_le_of_lt (by rw [hq]; exact Nat.div_le_self _ _) hk
        have hjnb : 0 < q → j < nb k := fun h0 => by
          rcases Nat.lt_or_ge j (nb k) with h1 | h1
          · exact h1
          · have : j = nb k := by omega
            rw [hq, this, nb_div_zero] at h0; omega
        by_cases h0 : 0 < q
        · have hj1 := hjnb h0
          have w1 : ((q : Int)).tmod 256 = ((q % 256 : Nat) : Int) := by rw [Int.tmod_eq_emod_of_nonneg (by omega)]; omega
          have w2 : ((q : Int)).tdiv 256 = ((q / 256 : Nat) : Int) := by rw [Int.tdiv_eq_ediv_of_nonneg (by omega)]; omega
          have hbq : (UInt8.ofNat q).toNat = q % 256 := by simp
          obtain ⟨ar, cr, hlr⟩ := row_slice hr
          rw [bigend_length] at hlr
          subst hlr
          have hrm := rowB_lit wr (UInt8.ofNat q) ((q % 256 : Nat) : Int) (by rw [hbq])
          obtain ⟨w3, a3, cap3, hrun, r3, o3⟩ := run_append8 (wr.alloc (.cells #[.int .u8 ((q % 256 : Nat) : Int)] 5)) _ 22 22 _ [UInt8.ofNat q] hrm (.slice ar j cr) j (bigend j k) (by have := src8v (RowB.sl (Row.alloc hr (.cells #[.int .u8 ((q % 256 : Nat) : Int)] 5))); rwa [bigend_length] at this) (by rw [bigend_length]) (by simp [bigend_length]; omega)
          clear hq hjnb
          go_wp2_with (at_builtin; refine Hid.out ?_)
          refine Lib.wpList_append_run _ rfl _ _ _ _ rfl _ _ rfl rfl _ _ hrun ?_
          clear hrun
          go_wp2
          go_roundw
          case rel =>
            refine ⟨j + 1, q / 256, hj1, by go_num, by rw [hqh.out, Nat.div_div_eq_div_mul, Nat.pow_succ], ?_, hx.trans (((Ext.refl _).alloc _).then o3 (fun _ h => h))⟩
            refine RowB.to r3 rfl ?_ ?_
            · rw [bigend, ← hqh.out]; rfl
            · have := hx.size
              simp only [World.size_alloc] at this
              rintro g (hg | hg)
              · omega
              · simp at hg; omega
          case measure => simp [intOf]; omega
        · obtain rfl : q = 0 := by omega
          have hjn : j = nb k := by
            rcases Nat.lt_or_ge j (nb k) with h1 | h1
            · have := nb_div_pos h1; omega
            · omega
          subst hjn
          obtain ⟨ar, cr, hlr⟩ := row_slice hr
          rw [bigend_length] at hlr
          subst hlr
          obtain ⟨N, hN⟩ : ∃ N, nb k = N := ⟨_, rfl⟩
          rw [hN] at hr hjk hL
          simp only [hN]
          clear hN hq hqh hjnb hj
          have hrow3 := Row.ext (hrow2.out _ ?hv) hx
          case hv => simp <;> omega
          go_wp2_with (at_builtin; refine Hid.out ?_)
          refine wpList_byte rfl _ _ rfl _ _ _ _ _ (Row.min hrow3) rfl _ rfl rfl (UInt8.ofNat (128 + N)) ?hb ?hl ?_
          case hb => simp <;> omega
          case hl => simp
          intro g cap w4 h4 o4
          have hl4 : RowB w4 (fun g => w.heap.size + 1 ≤ g) (.slice ar N cr) (bigend N k) := Row.kept hr o4 (fun g hg ho => by
            simp only [own, Value.ownBlock, Option.some.injEq] at ho
            omega)
          obtain ⟨w5, a5, cap5, hrun, r5, o5⟩ := run_append8 w4 _ 22 22 _ _ h4 (.slice ar N cr) N (bigend N k) (by have := src8v (RowB.sl hl4); rwa [bigend_length] at this) (by rw [bigend_length]) (by simp [bigend_length]; omega)
          go_wp2_with (at_builtin; refine Hid.out ?_)
          refine Lib.wpList_append_run _ rfl _ _ _ _ rfl _ _ rfl rfl _ _ hrun ?_
          clear hrun
          go_wp2
          go_ret
          rw [hH.out, hL.out, if_neg h]
          have e0 : ∀ g, own (.slice (some ⟨w.heap.size, 0, none⟩) 1 1) g → w.heap.size ≤ g := fun g hg => by
            simp only [own, Value.ownBlock, Option.some.injEq] at hg
            omega
          have hsz := hx.size
          simp only [World.size_alloc] at hsz
          refine ⟨_, rfl, RowB.to r5 rfl (by simp) ?_, ?_⟩
          · have := o4.size
            rintro q ((hq | hq) | hq)
            · exact e0 q hq
            · omega
            · omega
          · refine Ext.then (Ext.then (((Ext.refl w).alloc _).trans hx) o4 e0) o5 ?_
            rintro q (hq | hq)
            · exact e0 q hq
            · omega
    · go_enter Try.func66, Try.ntmps66
      go_wp2
      go_loopw [3, 11, 12] (fun nv lv _ wr => ∃ j q : Nat, j ≤ nb k ∧ nv = .int .i64 q ∧ q = k / 256 ^ j ∧ RowB wr (fun g => w.heap.size + 1 ≤ g) lv (bigend j k) ∧ Ext (w.alloc (.cells #[.int .u8 (64 * (c : Int) + n + 32)] 5)) wr) (fun nv _ _ _ => (intOf nv).toNat)
      case atStart => exact ⟨0, k, Nat.zero_le _, rfl, by simp, row_nil _ _ _ _, Ext.refl _⟩
      case round =>
        obtain ⟨j, q, hj, rfl, hq, hr, hx⟩ := hrel
        have hqh : Hid (q = k / 256 ^ j) := hq
        have hjk := nb_le k 8 (by omega)
        have hql : q < 4611686018427387904 := Nat.lt_of_le_of_lt (by rw [hq]; exact Nat.div_le_self _ _) hk
        have hjnb : 0 < q → j < nb k := fun h0 => by
          rcases Nat.lt_or_ge j (nb k) with h1 | h1
          · exact h1
          · have : j = nb k := by omega
            rw [hq, this, nb_div_zero] at h0; omega
        by_cases h0 : 0 < q
        · have hj1 := hjnb h0
          have w1 : ((q : Int)).tmod 256 = ((q % 256 : Nat) : Int) := by rw [Int.tmod_eq_emod_of_nonneg (by omega)]; omega
          have w2 : ((q : Int)).tdiv 256 = ((q / 256 : Nat) : Int) := by rw [Int.tdiv_eq_ediv_of_nonneg (by omega)]; omega
          have hbq : (UInt8.ofNat q).toNat = q % 256 := by simp
          obtain ⟨ar, cr, hlr⟩ := row_slice hr
          rw [bigend_length] at hlr
          subst hlr
          have hrm := rowB_lit wr (UInt8.ofNat q) ((q % 256 : Nat) : Int) (by rw [hbq])
          obtain ⟨w3, a3, cap3, hrun, r3, o3⟩ := run_append8 (wr.alloc (.cells #[.int .u8 ((q % 256 : Nat) : Int)] 5)) _ 22 22 _ [UInt8.ofNat q] hrm (.slice ar j cr) j (bigend j k) (by have := src8v (RowB.sl (Row.alloc hr (.cells #[.int .u8 ((q % 256 : Nat) : Int)] 5))); rwa [bigend_length] at this) (by rw [bigend_length]) (by simp [bigend_length]; omega)
          clear hq hjnb
          go_wp2_with (at_builtin; refine Hid.out ?_)
          refine Lib.wpList_append_run _ rfl _ _ _ _ rfl _ _ rfl rfl _ _ hrun ?_
          clear hrun
          go_wp2
          go_roundw
          case rel =>
            refine ⟨j + 1, q / 256, hj1, by go_num, by rw [hqh.out, Nat.div_div_eq_div_mul, Nat.pow_succ], ?_, hx.trans (((Ext.refl _).alloc _).then o3 (fun _ h => h))⟩
            refine RowB.to r3 rfl ?_ ?_
            · rw [bigend, ← hqh.out]; rfl
            · have := hx.size
              simp only [World.size_alloc] at this
              rintro g (hg | hg)
              · omega
              · simp at hg; omega
          case measure => simp [intOf]; omega
        · obtain rfl : q = 0 := by omega
          have hjn : j = nb k := by
            rcases Nat.lt_or_ge j (nb k) with h1 | h1
            · have := nb_div_pos h1; omega
            · omega
          subst hjn
          obtain ⟨ar, cr, hlr⟩ := row_slice hr
          rw [bigend_length] at hlr
          subst hlr
          obtain ⟨N, hN⟩ : ∃ N, nb k = N := ⟨_, rfl⟩
          rw [hN] at hr hjk hL
          simp only [hN]
          clear hN hq hqh hjnb hj
          have hrow3 := Row.ext (hrow2.out _ ?hv) hx
          case hv => simp <;> omega
          go_wp2_with (at_builtin; refine Hid.out ?_)
          refine wpList_byte rfl _ _ rfl _ _ _ _ _ (Row.min hrow3) rfl _ rfl rfl (UInt8.ofNat (128 + N)) ?hb ?hl ?_
          case hb => simp <;> omega
          case hl => simp
          intro g cap w4 h4 o4
          have hl4 : RowB w4 (fun g => w.heap.size + 1 ≤ g) (.slice ar N cr) (bigend N k) := Row.kept hr o4 (fun g hg ho => by
            simp only [own, Value.ownBlock, Option.some.injEq] at ho
            omega)
          obtain ⟨w5, a5, cap5, hrun, r5, o5⟩ := run_append8 w4 _ 22 22 _ _ h4 (.slice ar N cr) N (bigend N k) (by have := src8v (RowB.sl hl4); rwa [bigend_length] at this) (by rw [bigend_length]) (by simp [bigend_length]; omega)
          go_wp2_with (at_builtin; refine Hid.out ?_)
          refine Lib.wpList_append_run _ rfl _ _ _ _ rfl _ _ rfl rfl _ _ hrun ?_
          clear hrun
          go_wp2
          go_ret
          rw [hH.out, hL.out, if_neg h]
          have e0 : ∀ g, own (.slice (some ⟨w.heap.size, 0, none⟩) 1 1) g → w.heap.size ≤ g := fun g hg => by
            simp only [own, Value.ownBlock, Option.some.injEq] at hg
            omega
          have hsz := hx.size
          simp only [World.size_alloc] at hsz
          refine ⟨_, rfl, RowB.to r5 rfl (by simp) ?_, ?_⟩
          · have := o4.size
            rintro q ((hq | hq) | hq)
            · exact e0 q hq
            · omega
            · omega
          · refine Ext.then (Ext.then (((Ext.refl w).alloc _).trans hx) o4 e0) o5 ?_
            rintro q (hq | hq)
            · exact e0 q hq
            · omega
end Go.Proofs.Ytjannndndbohaaa
