/-
  The contracts of Head and of what it calls: for every slice of bytes, place and end the answer is headL's; nothing of what was there turns.
-/
import Derived.Test.YtdcfiphffbgocaaGreatDoorQJ
import Derived.Lib.EndianBits
import Derived.Laws.ResultCell
namespace Go.Proofs.YtdcfiphffbgocaaGreatDoor
open Go.RowKit

theorem ret_b {x y : Bool} (h : x = y) : Ending.returned (.bool x) = .returned (.bool y) := by rw [h]
theorem ret_i {k : IntKind} {a b : Int} (h : a = b) : Ending.returned (.int k a) = .returned (.int k b) := by rw [h]
theorem ret_iii {a b c x y z : Int} (h1 : a = x) (h2 : b = y) (h3 : c = z) : Ending.returned (.tuple #[.int .i64 a, .int .i64 b, .int .i64 c]) = .returned (.tuple #[.int .i64 x, .int .i64 y, .int .i64 z]) := by rw [h1, h2, h3]

def withinB (a e : Int) (n : Nat) : Bool := decide (0 ≤ a ∧ a ≤ e ∧ e ≤ n)
set_option maxHeartbeats 400000 in
theorem within_any (a e : Int) (n : Nat) (w : World) :
    Calls Tryz.prog 116 #[.int .i64 a, .int .i64 e, .int .i64 n] w fun x w' => x = .returned (.bool (withinB a e n)) ∧ w' = w := by
  have h : Hid (withinB a e n = decide (0 ≤ a ∧ a ≤ e ∧ e ≤ n)) := rfl
  go_enter Tryz.func116, Tryz.ntmps116
  go_wp2
  all_goals go_ret
  all_goals refine ⟨ret_b ?_, rfl⟩
  all_goals rw [h.out]
  all_goals first
    | exact (decide_eq_true (by omega)).symm
    | exact (decide_eq_false (by omega)).symm
    | exact decide_eq_decide.2 (by omega)

theorem or8 (x b : Nat) (hb : b < 256) (hx : x < 72057594037927936) : bits .or .u64 ((x : Int) * 256) (b : Int) = ((256 * x + b : Nat) : Int) := by
  rw [bits_join .u64 64 (by decide) wraps_u64 8 ((x : Int) * 256) b (by omega) (by omega) (by omega) (by omega) (by omega) (by omega)]
  omega

set_option maxRecDepth 100000 in
set_option maxHeartbeats 1000000 in
theorem greatLength_any (w : World) (g o cap : Nat) (l : List UInt8) (most : Nat) (hc : ∀ j (h : j < l.length), w.cell? ⟨g, o + j, none⟩ = some (B8 l[j])) (hl : l.length ≤ 1000) (hm : most < 36028797018963968) :
    Calls Tryz.prog 138 #[.slice (some ⟨g, o, none⟩) l.length cap, .int .i64 most] w fun x w' => x = .returned (.int .i64 (if big l ≤ most then (big l : Int) else (most + 1 : Int))) ∧ w' = w := by
  go_enter Tryz.func138, Tryz.ntmps138
  go_wp2
  go_loopw [5, 7, 10] (fun n b i wr => ∃ k : Nat, k ≤ l.length ∧ i = .int .i64 k ∧ n = .int .u64 (big (l.take k)) ∧ big (l.take k) ≤ most ∧ wr = w) (fun _ _ i _ => l.length - (intOf i).toNat)
  case atStart => exact ⟨0, Nat.zero_le _, rfl, by simp [big], by simp [big], rfl⟩
  case round =>
    obtain ⟨k, hk, rfl, rfl, hb, rfl⟩ := hrel
    by_cases hlt : k < l.length
    · have hcell := hc k hlt
      unfold B8 at hcell
      have hs : Hid (big (l.take (k + 1)) = 256 * big (l.take k) + l[k].toNat) := big_take_succ l k hlt
      have hn : l[k].toNat < 256 := l[k].toNat_lt
      obtain ⟨c, hcq⟩ : ∃ c : Nat, l[k].toNat = c := ⟨_, rfl⟩
      rw [hcq] at hcell hs hn
      obtain ⟨x, hx⟩ : ∃ x : Nat, big (l.take k) = x := ⟨_, rfl⟩
      rw [hx] at hs hb ⊢
      have hge := big_take_le l (k + 1)
      have hor := or8 x c hn (by omega)
      clear hc hcq
      by_cases hgt : 256 * x + c ≤ most
      · go_wp2
        go_roundw
        case rel => exact ⟨k + 1, by omega, by go_num, by rw [hs.out]; simp, by rw [hs.out]; omega, by first | rfl | trivial⟩
        case measure => simp [intOf]; omega
      · have hno : ¬ big l ≤ most := by have := hs.out; omega
        go_wp2
        go_ret
        exact ⟨ret_i (by omega), rfl⟩
    · have hk' : big (l.take k) = big l := by rw [List.take_of_length_le (by omega)]
      rw [hk'] at hb ⊢
      go_wp2
      go_ret
      exact ⟨rfl, rfl⟩

set_option maxRecDepth 100000 in
theorem and128 (f : Nat) (h : f < 256) : bits .and .u8 (f : Int) 128 = if f < 128 then 0 else 128 := by
  have : ∀ j : Fin 256, bits .and .u8 (j.val : Int) 128 = if j.val < 128 then 0 else 128 := by decide
  exact this ⟨f, h⟩
set_option maxRecDepth 100000 in
theorem and127 (f : Nat) (h : f < 256) : bits .and .u8 (f : Int) 127 = (f % 128 : Nat) := by
  have : ∀ j : Fin 256, bits .and .u8 (j.val : Int) 127 = (j.val % 128 : Nat) := by decide
  exact this ⟨f, h⟩

set_option maxRecDepth 100000 in
set_option maxHeartbeats 2000000 in
theorem bodyLength_any (w : World) (v : Value) (l : List UInt8) (hs : Sl w v l) (hl : l.length < 36028797018963968) :
    Calls Tryz.prog 117 #[v] w fun x w' => x = .returned (.tuple #[.int .i64 (bodyLen l).1, .int .i64 (bodyLen l).2.1, .int .i64 (bodyLen l).2.2]) ∧ w' = w := by
  rcases hs.cases with ⟨a, cap, rfl, rfl, _⟩ | ⟨g, o, cap, hpos, rfl, hcap, hmax, hc⟩
  · go_enter Tryz.func117, Tryz.ntmps117
    go_wp2
    go_ret3
    exact ⟨rfl, rfl⟩
  · match l, hpos with
    | f :: r, _ =>
      have hcell := hc 0 (by simp)
      simp only [B8, List.getElem_cons_zero, Nat.add_zero] at hcell
      have hf : f.toNat < 256 := f.toNat_lt
      have hB : Hid (bodyLen (f :: r) = if f.toNat = 128 ∨ f.toNat = 255 then (0, 0, 21)
        else if f.toNat < 128 then (if r.length < f.toNat then (0, 0, 5) else (1, f.toNat, 0))
        else if r.length < f.toNat - 128 then (0, 0, 5)
        else if r.length - (f.toNat - 128) < big (r.take (f.toNat - 128)) then (0, 0, 5)
        else (1 + (f.toNat - 128), big (r.take (f.toNat - 128)), 0)) := rfl
      have hcs : Hid (∀ j (h : j < (f :: r).length), w.cell? ⟨g, o + j, none⟩ = some (B8 (f :: r)[j])) := hc
      have hand := and128 f.toNat hf
      have hand2 := and127 f.toNat hf
      obtain ⟨n, hn⟩ : ∃ n : Nat, f.toNat = n := ⟨_, rfl⟩
      obtain ⟨m, hm⟩ : ∃ m : Nat, r.length = m := ⟨_, rfl⟩
      simp only [List.length_cons] at hcap hl ⊢
      rw [hn] at hcell hf hB hand hand2
      rw [hm] at hcap hl hB ⊢
      have hmh : Hid (r.length = m) := hm
      clear hc hn hs hm
      by_cases h1 : n = 128
      · subst h1
        go_enter Tryz.func117, Tryz.ntmps117
        go_wp2
        go_ret3
        rw [hB.out]
        exact ⟨rfl, rfl⟩
      by_cases h2 : n = 255
      · subst h2
        go_enter Tryz.func117, Tryz.ntmps117
        go_wp2
        go_ret3
        rw [hB.out]
        exact ⟨rfl, rfl⟩
      have n1 : ((n : Int) == 128) = false := by simp; omega
      have n2 : ((n : Int) == 255) = false := by simp; omega
      by_cases h3 : n < 128
      · rw [if_pos h3] at hand
        by_cases h4 : m < n
        · go_enter Tryz.func117, Tryz.ntmps117
          go_wp2
          go_ret3
          rw [hB.out, if_neg (by omega), if_pos h3, if_pos h4]
          exact ⟨rfl, rfl⟩
        · go_enter Tryz.func117, Tryz.ntmps117
          go_wp2
          go_ret3
          rw [hB.out, if_neg (by omega), if_pos h3, if_neg h4]
          exact ⟨rfl, rfl⟩
      · rw [if_neg h3] at hand
        rw [show n % 128 = n - 128 by omega] at hand2
        obtain ⟨k, hk⟩ : ∃ k : Nat, n - 128 = k := ⟨_, rfl⟩
        rw [hk] at hand2 hB
        have hk127 : k < 127 := by omega
        by_cases h4 : m < k
        · go_enter Tryz.func117, Tryz.ntmps117
          go_wp2
          go_ret3
          rw [hB.out, if_neg (by omega), if_neg h3, if_pos h4]
          exact ⟨rfl, rfl⟩
        · have htl : (r.take k).length = k := by rw [List.length_take]; have := hmh.out; omega
          have hgl := greatLength_any w g (o + 1) (cap - 1) (r.take k) (m - k) (fun j hj => by
            rw [htl] at hj
            have h := hcs.out (j + 1) (by have := hmh.out; simp; omega)
            rw [show o + 1 + j = o + (j + 1) by omega, h]
            simp) (by omega) (by omega)
          rw [htl, show ((m - k : Nat) : Int) = (m : Int) + 1 - (1 + (k : Int)) by omega] at hgl
          obtain ⟨y, hy⟩ : ∃ y : Nat, big (r.take k) = y := ⟨_, rfl⟩
          rw [hy] at hgl hB
          clear hcs hy
          by_cases h5 : y ≤ m - k
          · rw [if_pos h5] at hgl
            go_enter Tryz.func117, Tryz.ntmps117
            go_wp2_with (go_at_call 138; refine hgl.mono ?_; rintro e w1 ⟨rfl, rfl⟩)
            go_ret3
            rw [hB.out, if_neg (by omega), if_neg h3, if_neg h4, if_neg (by omega)]
            exact ⟨ret_iii (by simp) rfl rfl, rfl⟩
          · rw [if_neg h5] at hgl
            go_enter Tryz.func117, Tryz.ntmps117
            go_wp2_with (go_at_call 138; refine hgl.mono ?_; rintro e w1 ⟨rfl, rfl⟩)
            go_ret3
            rw [hB.out, if_neg (by omega), if_neg h3, if_neg h4, if_pos (by omega)]
            exact ⟨rfl, rfl⟩

set_option maxRecDepth 100000 in
theorem bits_tag (f : Nat) (h : f < 256) : bits .and .u8 (f : Int) 31 = (f % 32 : Nat) ∧ (bits .and .u8 (f : Int) 32 == 0) = !(f / 32 % 2 == 1) := by
  have : ∀ j : Fin 256, bits .and .u8 (j.val : Int) 31 = (j.val % 32 : Nat) ∧ (bits .and .u8 (j.val : Int) 32 == 0) = !(j.val / 32 % 2 == 1) := by decide
  exact this ⟨f, h⟩

theorem post_tlv {fn : Func} {R : Ending → World → Prop} {a : Act} {w : World} {p u : Tmp} (h : fn.results = #[.cell p 94, .tmp u]) (hd : a.defers = []) (g : Nat) (cs : Array Value) (fr : Nat × Nat) (hp : a.tmps.getD p undef = .pointer (some ⟨g, 0, none⟩)) (hg : w.heap[g]? = some (.cells cs 94 fr)) (hsz : cs.size = 5)
    (hR : R (.returned (.tuple #[.agg cs, a.tmps.getD u undef])) w) : bodyPost Tryz.prog fn R .ret a w := by
  refine ⟨hd, _, ?_, hR⟩
  rw [results_cell_tmp h]
  rw [hp]
  have hi : (Tryz.prog.info? 94).map (·.size) = some cs.size := by rw [hsz]; kernel_rfl
  have hl := run_loadVar_row (P := Tryz.prog) w g 94 94 cs fr _ hg Tryz.underlying94 rfl hi
  simp [asAddr, hl]

theorem heap_new2 (w : World) (A B : Obj) : ((w.alloc A).alloc B).heap[w.heap.size]? = some A := by
  rw [Below.heap_alloc _ _ _ (by simp), heap_alloc_new]

set_option maxRecDepth 100000 in
set_option maxHeartbeats 4000000 in
theorem Head_any (w : World) (v : Value) (l : List UInt8) (a e : Int) (hs : Sl w v l) (hl : l.length < 36028797018963968) :
    Calls Tryz.prog 87 #[v, .int .i64 a, .int .i64 e] w fun x w' => x = .returned (.tuple #[tv (headL l a e).1, .int .i64 (headL l a e).2]) ∧ Ext w w' := by
  have hH : Hid (headL l a e = if 0 ≤ a ∧ a ≤ e ∧ e ≤ l.length then headB a.toNat (cutB l a.toNat e.toNat) else (.zero, 2)) := rfl
  obtain ⟨ad, cap, rfl, h1, h2, h3⟩ := hs
  by_cases hw : 0 ≤ a ∧ a ≤ e ∧ e ≤ l.length
  · have hwb : withinB a e l.length = true := decide_eq_true hw
    obtain ⟨hw1, hw2, hw3⟩ := hw
    obtain ⟨i, rfl⟩ := Int.eq_ofNat_of_zero_le hw1
    obtain ⟨j, rfl⟩ := Int.eq_ofNat_of_zero_le (show 0 ≤ e by omega)
    rw [if_pos ⟨hw1, hw2, hw3⟩] at hH
    simp only [Int.toNat_natCast] at hH
    obtain ⟨n, hn⟩ : ∃ n, l.length = n := ⟨_, rfl⟩
    have hlen : Hid ((cutB l i j).length = j - i) := cutB_length l i j (by omega)
    have hcut : Hid (∀ k (h : k < (cutB l i j).length), ∃ g o, ad = some ⟨g, o, none⟩ ∧ w.cell? ⟨g, o + i + k, none⟩ = some (B8 (cutB l i j)[k])) := fun k hk => by
      have hk' := hk
      rw [hlen.out] at hk
      obtain ⟨g, o, e1, e2⟩ := h3 (i + k) (by omega)
      refine ⟨g, o, e1, ?_⟩
      rw [Nat.add_assoc, e2]
      simp [cutB]
    rw [hn] at hw3 hwb h1 hl ⊢
    clear h3
    obtain ⟨c, hc⟩ : ∃ c, cutB l i j = c := ⟨_, rfl⟩
    rw [hc] at hH hlen hcut
    have hnh : Hid (l.length = n) := hn
    clear hn hc
    match c with
    | [] =>
      have hij : j = i := by have := hlen.out; simp at this; omega
      subst hij
      go_enter Tryz.func87, Tryz.ntmps87
      go_wp2_with (go_at_call 116; refine (within_any _ _ _ _).mono ?_; rintro _ w1 ⟨rfl, rfl⟩; rw [hwb])
      all_goals
        refine post_tlv rfl rfl w.heap.size _ _ rfl (heap_alloc_new _ _) rfl ?_
        rw [hH.out]
        exact ⟨rfl, (Ext.refl w).alloc _⟩
    | t :: r =>
      have hc0 := hcut.out 0 (by simp)
      obtain ⟨g, o, rfl, hcell⟩ := hc0
      simp only [B8, List.getElem_cons_zero, Nat.add_zero] at hcell
      have hij : j = i + (r.length + 1) := by have := hlen.out; simp at this; omega
      have hij1 : i < j := by omega
      have hij2 : Hid (r.length = j - i - 1) := by show _ = _; omega
      clear hij
      have hb := bits_tag t.toNat t.toNat_lt
      have hf : t.toNat < 256 := t.toNat_lt
      have hHB : Hid (headB i (t :: r) = if t.toNat % 32 = 31 then (.zero, 20)
        else if (bodyLen r).2.2 ≠ 0 then (.zero, (bodyLen r).2.2)
        else (⟨t.toNat / 64, t.toNat / 32 % 2 == 1, t.toNat % 32, i + 1 + (bodyLen r).1, i + 1 + (bodyLen r).1 + (bodyLen r).2.1⟩, 0)) := rfl
      obtain ⟨f, hfe⟩ : ∃ f : Nat, t.toNat = f := ⟨_, rfl⟩
      rw [hfe] at hcell hb hf hHB
      obtain ⟨hb1, hb2⟩ := hb
      have hcA : ∀ ob : Obj, (w.alloc ob).cell? ⟨g, o + i, none⟩ = some (.int .u8 f) := fun ob => ((Ext.refl w).alloc ob).cell hcell
      have hsl : Hid (∀ ob : Obj, Sl (w.alloc ob) (.slice (some ⟨g, o + i + 1, none⟩) (j - i - 1) (cap - i - 1)) r) := fun ob => by
        refine sl_of hij2.out.symm (by omega) (by omega) fun k hk => ?_
        obtain ⟨g', o', e1, e2⟩ := hcut.out (k + 1) (by simp; omega)
        cases e1
        refine ((Ext.refl w).alloc ob).cell ?_
        rw [show o + i + 1 + k = o + i + (k + 1) by omega, e2]
        simp
      have hsl2 : Hid (∀ ob : Obj, j - i - 1 = 0 → Sl (w.alloc ob) (.slice (some ⟨g, o + i, none⟩) (j - i - 1) 0) r) := fun ob h0 => by
        obtain rfl : r = [] := List.eq_nil_of_length_eq_zero (hij2.out.trans h0)
        exact sl_nil h0 (Nat.zero_le _)
      have hrl : r.length < 36028797018963968 := by have := hij2.out; omega
      have hok : Hid ((bodyLen r).2.2 = 0 → (bodyLen r).1 + (bodyLen r).2.1 ≤ j - i - 1) := fun h => by have := bodyLen_ok r h; rw [hij2.out] at this; exact this.2
      obtain ⟨x1, x2, x3, hx⟩ : ∃ x1 x2 x3, bodyLen r = (x1, x2, x3) := ⟨_, _, _, rfl⟩
      have hbl : ∀ (ob : Obj) (v : Value), Sl (w.alloc ob) v r → Calls Tryz.prog 117 #[v] (w.alloc ob) fun x w' => x = .returned (.tuple #[.int .i64 (x1 : Int), .int .i64 (x2 : Int), .int .i64 (x3 : Int)]) ∧ w' = w.alloc ob := fun ob v hv => by
        have := bodyLength_any (w.alloc ob) v r hv hrl
        rw [hx] at this
        exact this
      rw [hx] at hHB hok
      clear hx
      have hji : ((j - i : Nat) : Int) = (j : Int) - i := by omega
      by_cases h31 : f % 32 = 31
      · rw [h31] at hb1
        go_enter Tryz.func87, Tryz.ntmps87
        go_wp2_with (go_at_call 116; refine (within_any _ _ _ _).mono ?_; rintro _ w1 ⟨rfl, rfl⟩; rw [hwb])
        refine post_tlv rfl rfl w.heap.size _ _ rfl (heap_alloc_new _ _) rfl ?_
        rw [hH.out, hHB.out, if_pos h31]
        exact ⟨rfl, (Ext.refl w).alloc _⟩
      · have hne : (((f % 32 : Nat) : Int) == 31) = false := by simp; omega
        go_enter Tryz.func87, Tryz.ntmps87
        by_cases hx3 : x3 = 0
        · subst hx3
          have hok2 := hok.out rfl
          simp only at hok2
          go_wp2_with (first
            | (go_at_call 116; refine (within_any _ _ _ _).mono ?_; rintro _ w1 ⟨rfl, rfl⟩; rw [hwb])
            | (go_at_call 117; refine (hbl _ _ (by first | exact hsl.out _ | exact hsl2.out _ (by omega))).mono ?_; rintro _ w2 ⟨rfl, rfl⟩))
          all_goals
            refine post_tlv rfl rfl w.heap.size _ _ rfl (heap_new2 _ _ _) rfl ?_
            rw [hH.out, hHB.out, if_neg h31, if_neg (by simp)]
            refine ⟨?_, ((Ext.refl w).alloc _).alloc _⟩
            have hq : (bits BinOp.and IntKind.u8 (f : Int) 32 != 0) = (f / 32 % 2 == 1) := by rw [bne, hb2, Bool.not_not]
            rw [hq]
            simp [tv]
        · have hx3' : ((x3 : Int) == 0) = false := by simp; omega
          go_wp2_with (first
            | (go_at_call 116; refine (within_any _ _ _ _).mono ?_; rintro _ w1 ⟨rfl, rfl⟩; rw [hwb])
            | (go_at_call 117; refine (hbl _ _ (by first | exact hsl.out _ | exact hsl2.out _ (by omega))).mono ?_; rintro _ w2 ⟨rfl, rfl⟩))
          all_goals
            refine post_tlv rfl rfl w.heap.size _ _ rfl (heap_alloc_new _ _) rfl ?_
            rw [hH.out, hHB.out, if_neg h31, if_pos hx3]
            exact ⟨rfl, (Ext.refl w).alloc _⟩
  · have hwb : withinB a e l.length = false := decide_eq_false hw
    go_enter Tryz.func87, Tryz.ntmps87
    go_wp2_with (go_at_call 116; refine (within_any _ _ _ _).mono ?_; rintro _ w1 ⟨rfl, rfl⟩; rw [hwb])
    refine post_tlv rfl rfl w.heap.size _ _ rfl (heap_alloc_new _ _) rfl ?_
    rw [hH.out, if_neg hw]
    exact ⟨rfl, (Ext.refl w).alloc _⟩
end Go.Proofs.YtdcfiphffbgocaaGreatDoor
