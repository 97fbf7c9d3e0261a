/-
  The document's Number, Pack.
-/
import Derived.Test.YtfcpnglemiiphaaRset
import Derived.Test.YtfcpnglemiiphaaIpk
namespace Go.Proofs.Ytfcpnglemiiphaa
open Go.RowKit Go.Shelf

theorem push_row8 {w wr : World} {a : Option Addr} {n c : Nat} {acc : List UInt8} (hx : Ext w wr) (hrow : RowE 5 B8 wr (fun q => w.heap.size ≤ q) (.slice a n c) acc) (y : Nat) (hy : y < 256) (ty : TypeId) (hl : acc.length ≤ 4398046511104) :
    ∃ w9 a9 c9, (Builtin.append_ #[41, 41] ty #[.slice a n c, .slice (some ⟨wr.heap.size, 0, none⟩) 1 1]).run Try.prog (wr.alloc (.cells #[.int .u8 (y : Int)] 5)) = .ok (.slice a9 (n + 1) c9) w9 ∧
      Hid (RowE 5 B8 w9 (fun q => w.heap.size ≤ q) (.slice a9 (n + 1) c9) (acc ++ [UInt8.ofNat y]) ∧ Ext w w9) := by
  obtain ⟨w9, a9, c9, hr, r9, o9⟩ := run_append8 (wr.alloc (.cells #[.int .u8 (y : Int)] 5)) _ ty _ _ (Row.alloc hrow _) _ 1 [UInt8.ofNat y] (srcB Try.underlying41 one8 _ wr.heap.size _ _ 1 1 (heap_alloc_new wr _) (by rw [b8_nat y hy]; rfl) rfl) rfl (by simp; omega)
  have hn : n = acc.length := hrow.sl.len.1
  subst hn
  have o9' : Only (fun q => w.heap.size ≤ q) wr w9 := ((Only.refl _ wr).alloc _).trans (o9.mono fun _ _ h => .inl h)
  refine ⟨w9, a9, c9, hr, ?_, hx.then o9' (fun _ h => h)⟩
  refine r9.to rfl rfl ?_
  have hz := hx.size
  rintro q (hq | hq)
  · exact hq
  · simp at hq; omega

set_option maxRecDepth 100000 in
set_option maxHeartbeats 4000000 in
theorem rNumber_any (w : World) (n0 : Nat) (hx : n0 < 18446744073709551616) :
    Calls Try.prog 47 #[.int .u64 n0] w fun y w' => ∃ u, y = .returned u ∧ RowE 5 B8 w' (fun q => w.heap.size ≤ q) u (numB n0) ∧ Ext w w' := by
  have hten : (numB n0).length ≤ 11 := numB_len 10 _ (Nat.lt_of_lt_of_le hx (by decide))
  go_enter Try.func47, Try.ntmps47
  go_wp2
  go_loopw [0, 3] (fun n b wr => ∃ (m k : Nat) (acc : List UInt8) (a : Option Addr) (cap : Nat), m < 18446744073709551616 ∧ n = .int .u64 m ∧ b = .slice a k cap ∧ Hid (acc ++ numB m = numB n0 ∧ RowE 5 B8 wr (fun q => w.heap.size ≤ q) (.slice a k cap) acc ∧ Ext w wr)) (fun n _ _ => (intOf n).toNat)
  case atStart => exact ⟨n0, 0, [], none, 0, hx, rfl, rfl, by simp, row_nil _ _ _ _, Ext.refl _⟩
  case round =>
    obtain ⟨m, k, acc, a, cap, hm, rfl, rfl, hH⟩ := hrel
    have hacc : acc.length ≤ 4398046511104 := by
      have h1 := congrArg List.length hH.out.1
      rw [List.length_append] at h1
      omega
    by_cases hlt : m < 128
    · have hlti : (m : Int) < 128 := by omega
      have hd : decide ((128 : Int) ≤ (m : Int)) = false := by simp only [decide_eq_false_iff_not]; omega
      have hd2 : decide (128 ≤ m) = false := by simp only [decide_eq_false_iff_not]; omega
      obtain ⟨w9, a9, c9, hr, hp⟩ := push_row8 hH.out.2.2 hH.out.2.1 m (by omega) 41 hacc
      go_wp2_with (at_builtin; refine Hid.out ?_)
      refine Lib.wpList_append_run _ rfl _ _ _ _ rfl _ _ rfl rfl _ _ hr ?_
      clear hr
      go_wp2
      go_ret
      refine ⟨_, rfl, ?_, hp.out.2⟩
      have h9 := hp.out.1
      rwa [← numB_lt hlt, hH.out.1] at h9
    · have hg : (128 : Int) ≤ (m : Int) := by omega
      have hgn : 128 ≤ m := by omega
      obtain ⟨w9, a9, c9, hr, hp⟩ := push_row8 hH.out.2.2 hH.out.2.1 (m % 128 + 128) (by omega) 41 hacc
      rw [show ((m % 128 + 128 : Nat) : Int) = 128 + (m : Int) % 128 by omega] at hr
      go_wp2_with (at_builtin; refine Hid.out ?_)
      refine Lib.wpList_append_run _ rfl _ _ _ _ rfl _ _ rfl rfl _ _ hr ?_
      clear hr
      go_wp2
      go_roundw
      case rel =>
        refine ⟨m / 128, k + 1, acc ++ [UInt8.ofNat (m % 128 + 128)], a9, c9, by omega, by simp, rfl, ?_, hp.out.1, hp.out.2⟩
        have h9 := hH.out.1
        rw [numB_ge hgn] at h9
        rw [List.append_assoc]; exact h9
      case measure => simp [intOf]; omega

set_option maxRecDepth 100000 in
set_option maxHeartbeats 8000000 in
theorem rPack_any (w : World) (v : Value) (l : List UInt64) (hb : l.length ≤ 68719476736) (hs : Sl U6 w v l) :
    Calls Try.prog 28 #[v] w fun x w' => ∃ u, x = .returned u ∧ RowE 5 B8 w' (fun k => w.heap.size ≤ k) u (packL (setL l)) ∧ Ext w w' := by
  have hS := rset_any _ w v l (Nat.le_refl _) (by omega) hs
  have hsl := setL_len l
  have hri := rises_setL l
  obtain ⟨a0, n0, c0, rfl, _⟩ := hs.shape
  obtain ⟨s, hse⟩ : ∃ s, setL l = s := ⟨_, rfl⟩
  rw [hse] at hS hsl hri ⊢
  have hrih : Hid (Rises s) := hri
  clear hse hs hri
  have mixed := (by kernel_rfl : Try.prog.follows Departure.mixedOrders = true)
  go_enter Try.func28, Try.ntmps28
  go_wp2_with fail
  go_at_call 35
  refine hS.mono ?_
  rintro _ w1 ⟨u, rfl, ru, x1⟩
  have hu := ru.sl
  obtain ⟨ua, un, uc, rfl, hun⟩ := hu.shape
  have hunb : un ≤ 68719476736 := by have := hun.out; omega
  have huh : Hid (Sl U6 w1 (.slice ua un uc) s) := hu
  have hcapu : un ≤ uc := hu.len.2.1
  clear hu ru hS
  go_wp2_with fail
  go_at_call 47
  refine (rNumber_any w1 un (by omega)).mono ?_
  rintro _ w2 ⟨u2, rfl, r2, x2⟩
  obtain ⟨a2, n2, c2, rfl, hn2⟩ := r2.sl.shape
  have r2h : Hid (RowE 5 B8 w2 (fun q => w1.heap.size ≤ q) (.slice a2 n2 c2) (numB un ++ gapsTo s 0)) := r2.to rfl (by simp [gapsTo]) (fun _ h => h)
  clear r2 hn2
  go_wp2
  go_loopw [4, 5] (fun b i wr => ∃ (k : Nat) (a : Option Addr) (n c : Nat), k ≤ un ∧ i = .int .i64 k ∧ b = .slice a n c ∧ Hid (RowE 5 B8 wr (fun q => w1.heap.size ≤ q) (.slice a n c) (numB un ++ gapsTo s k)) ∧ Ext w1 wr) (fun _ i _ => un - (intOf i).toNat)
  case atStart => exact ⟨0, a2, n2, c2, Nat.zero_le _, rfl, rfl, r2h, x2⟩
  case round =>
    obtain ⟨k, a, n, c, hk, rfl, rfl, hrow, hx⟩ := hrel
    by_cases hlt : k < un
    · have hki : (k : Int) < (un : Int) := by omega
      have hks : k < s.length := by have := hun.out; omega
      obtain ⟨g, o, rfl, ck⟩ := huh.out.at k hks
      have ck' := hx.cell ck
      unfold U6 at ck'
      have hgl := gaps_len s k
      have hlen : Hid ((numB un ++ gapsTo s k).length ≤ 1099511627776) := by
        show _ ≤ _
        have := numB_len 10 un (Nat.lt_of_le_of_lt hunb (by decide))
        rw [List.length_append]; omega
      have hG := gap_lt s k hks
      have hGl : Hid ((numB (gapAt s k hks)).length ≤ 11) := numB_len 10 _ (Nat.lt_of_lt_of_le hG (by decide))
      have hgs : Hid (gapsTo s (k + 1) = gapsTo s k ++ numB (gapAt s k hks)) := by show _ = _; rw [gapsTo, dif_pos hks]
      have hgap : gapAt s k hks = if k = 0 then s[k].toNat else s[k].toNat - ((s[k - 1]'(by omega)).toNat + 1) := rfl
      have hAb := s[k].toNat_lt
      obtain ⟨G, hGe⟩ : ∃ G, gapAt s k hks = G := ⟨_, rfl⟩
      rw [hGe] at hG hGl hgs hgap
      obtain ⟨A, hA⟩ : ∃ A, s[k].toNat = A := ⟨_, rfl⟩
      rw [hA] at ck' hgap hAb
      clear ck hGe hgl
      rcases Nat.eq_zero_or_pos k with hk0 | hk0
      · rw [if_pos hk0] at hgap
        subst hgap
        subst hk0
        simp only [Nat.add_zero] at ck'
        clear hA
        go_wp2_with fail
        go_at_call 47
        refine (rNumber_any wr G hG).mono ?_
        rintro _ w8 ⟨u8, rfl, r8, x8⟩
        obtain ⟨a8, n8, c8, rfl, hn8⟩ := r8.sl.shape
        have r8h : Hid (Sl B8 w8 (.slice a8 n8 c8) (numB G)) := r8.sl
        clear r8
        go_wp2_with (at_builtin; refine Hid.out ?_)
        obtain ⟨w9, a9, c9, hr, r9, o9⟩ := run_append8 w8 _ 41 _ _ (Row.ext hrow.out x8) _ _ (numB G) (srcV Try.underlying41 one8 r8h.out) rfl (by have := hlen.out; have := hGl.out; omega)
        refine Lib.wpList_append_run _ rfl _ _ _ _ rfl _ _ rfl rfl _ _ hr ?_
        clear hr
        obtain ⟨N9, hN9⟩ : ∃ N9, (numB un ++ gapsTo s 0).length + (numB G).length = N9 := ⟨_, rfl⟩
        rw [hN9] at r9 ⊢
        clear hN9
        go_wp2
        go_roundw
        case rel => exact ⟨1, a9, N9, c9, by omega, by go_num, rfl, by
          rw [hgs.out, ← List.append_assoc]
          refine r9.to rfl rfl ?_
          rintro q (hq | hq)
          · exact hq
          · exact Nat.le_trans (hx.trans x8).size hq, (hx.trans x8).then o9 (fun _ h => h)⟩
        case measure => simp [intOf]; omega
      · obtain ⟨q, rfl⟩ : ∃ q, k = q + 1 := ⟨k - 1, by omega⟩
        have hq1 : ((q + 1 : Nat) : Int) - 1 = (q : Int) := by omega
        obtain ⟨g', o', e', cq⟩ := huh.out.at q (by omega)
        simp only [Option.some.injEq, Addr.mk.injEq, and_true] at e'
        obtain ⟨rfl, rfl⟩ := e'
        have cq' := hx.cell cq
        unfold U6 at cq'
        have hPA := (u_lt _ _).1 ((rises_iff s).1 hrih.out q hks)
        rw [hA] at hPA
        rw [if_neg (by omega)] at hgap
        simp only [Nat.add_sub_cancel] at hgap
        obtain ⟨P, hP⟩ : ∃ P, s[q].toNat = P := ⟨_, rfl⟩
        rw [hP] at cq' hPA hgap
        have hgi : (A : Int) - (P : Int) - 1 = (G : Int) := by omega
        have hkp : (0 : Int) < ((q + 1 : Nat) : Int) := by omega
        clear hgap hA hP cq hk0
        go_wp2
        go_quiet (fail)
        have xq : Ext wr (wr.drewN nq) := (Ext.refl wr).drewN nq
        generalize wr.drewN nq = w7 at *
        go_wp2_with fail
        go_at_call 47
        refine (rNumber_any w7 G hG).mono ?_
        rintro _ w8 ⟨u8, rfl, r8, x8⟩
        obtain ⟨a8, n8, c8, rfl, hn8⟩ := r8.sl.shape
        have r8h : Hid (Sl B8 w8 (.slice a8 n8 c8) (numB G)) := r8.sl
        have xq8 := xq.trans x8
        clear r8
        go_wp2_with (at_builtin; refine Hid.out ?_)
        obtain ⟨w9, a9, c9, hr, r9, o9⟩ := run_append8 w8 _ 41 _ _ (Row.ext hrow.out xq8) _ _ (numB G) (srcV Try.underlying41 one8 r8h.out) rfl (by have := hlen.out; have := hGl.out; omega)
        refine Lib.wpList_append_run _ rfl _ _ _ _ rfl _ _ rfl rfl _ _ hr ?_
        clear hr
        obtain ⟨N9, hN9⟩ : ∃ N9, (numB un ++ gapsTo s (q + 1)).length + (numB G).length = N9 := ⟨_, rfl⟩
        rw [hN9] at r9 ⊢
        clear hN9
        go_wp2
        go_roundw
        case rel => exact ⟨q + 1 + 1, a9, N9, c9, by omega, by go_num, rfl, by
          rw [hgs.out, ← List.append_assoc]
          refine r9.to rfl rfl ?_
          rintro q (hq | hq)
          · exact hq
          · exact Nat.le_trans (hx.trans xq8).size hq, (hx.trans xq8).then o9 (fun _ h => h)⟩
        case measure => simp [intOf]; omega
    · obtain rfl : k = un := by omega
      go_wp2
      go_ret
      refine ⟨_, rfl, hrow.out.to rfl ?_ (fun q hq => Nat.le_trans x1.size hq), x1.trans hx⟩
      rw [packL, ← hun.out]
end Go.Proofs.Ytfcpnglemiiphaa
