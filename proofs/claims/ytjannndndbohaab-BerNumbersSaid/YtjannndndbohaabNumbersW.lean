/-
  BerNumbers' walk: whatever the number.
-/
import Derived.Test.YtjannndndbohaabBnum
import Derived.Test.YtjannndndbohaabLit
namespace Go.Proofs.Ytjannndndbohaab
open Go.RowKit Go.Shelf

theorem RowB.cell {w : World} {S : Nat → Prop} {g n cap : Nat} {l : List UInt8} (h : RowB w S (.slice (some ⟨g, 0, none⟩) n cap) l) (j : Nat) (hj : j < l.length) : w.cell? ⟨g, j, none⟩ = some (.int .u8 (l[j].toNat : Int)) := by
  have := World.ownsRow.cells h.1 (g := g) rfl j (B8 l[j]) (by simp [List.getElem?_eq_getElem hj])
  rwa [Addr.add_lit, Nat.zero_add] at this

theorem num_st (v : Int) : layE st0 0 2 (intB v) = 0 ∧ layW st0 0 2 (intB v) = ⟨2 :: UInt8.ofNat (octN v) :: intB v, []⟩ := by
  have hb := octN_bound v
  have hl : (intB v).length = octN v := twos_length _ _
  have hE : layE st0 0 2 (intB v) = 0 := by
    unfold layE
    rw [if_neg (by decide), hl]
    have ho : lenOct (octN v) = 1 := by unfold lenOct; rw [if_pos (by omega)]
    rw [ho]
    simp only [st0, List.length_nil, nats, List.map_nil, closedN]
    rw [if_neg (by omega)]
  refine ⟨hE, ?_⟩
  unfold layW
  rw [if_pos hE]
  have hL : lenL (octN v) = [UInt8.ofNat (octN v)] := by unfold lenL; rw [if_pos (by omega)]
  simp only [st0, itemL, hl, hL, List.nil_append, List.cons_append]
  rfl

theorem num_len (v : Int) : (2 :: UInt8.ofNat (octN v) :: intB v).length = octN v + 2 := by simp [intB, twos_length]
theorem num_body (v : Int) : bodyE (2 :: UInt8.ofNat (octN v) :: intB v) false 2 ((octN v : Int) + 2) = 0 ∧ bodyB (2 :: UInt8.ofNat (octN v) :: intB v) false 2 ((octN v : Int) + 2) = intB v := by
  have hl := num_len v
  have hE : bodyE (2 :: UInt8.ofNat (octN v) :: intB v) false 2 ((octN v : Int) + 2) = 0 := by
    unfold bodyE
    have : withinB 2 ((octN v : Int) + 2) (2 :: UInt8.ofNat (octN v) :: intB v).length = true := by
      unfold withinB; rw [hl]; exact decide_eq_true (by omega)
    rw [this]; rfl
  refine ⟨hE, ?_⟩
  unfold bodyB
  rw [if_pos hE]
  unfold cutB
  rw [show ((octN v : Int) + 2).toNat = octN v + 2 by omega, List.take_of_length_le (by rw [hl]; exact Nat.le_refl _)]
  rfl
theorem num_int (v : Int) (h1 : -9223372036854775808 ≤ v) (h2 : v < 9223372036854775808) : intE (2 :: UInt8.ofNat (octN v) :: intB v) false 2 ((octN v : Int) + 2) = 0 ∧ intV (2 :: UInt8.ofNat (octN v) :: intB v) false 2 ((octN v : Int) + 2) = v := by
  obtain ⟨b1, b2⟩ := num_body v
  have hb := octN_bound v
  have hl : (intB v).length = octN v := twos_length _ _
  have hE : intE (2 :: UInt8.ofNat (octN v) :: intB v) false 2 ((octN v : Int) + 2) = 0 := by
    unfold intE
    rw [b1, b2, if_neg (by simp), if_neg]
    rw [hl, intB_unpadded v h1 h2]
    rintro (h | h | h)
    · omega
    · omega
    · cases h
  refine ⟨hE, ?_⟩
  unfold intV
  rw [if_pos hE, b2]
  exact intB_back v h1 h2
theorem num_more (v : Int) (h1 : -9223372036854775808 ≤ v) (h2 : v < 9223372036854775808) (s : UInt8) (hs : s.toNat = if v < 0 then 255 else 0) : intE (s :: intB v) false 0 ((octN v : Int) + 1) = 23 := by
  have hl : (s :: intB v).length = octN v + 1 := by simp [intB, twos_length]
  have hw : withinB 0 ((octN v : Int) + 1) (s :: intB v).length = true := by unfold withinB; rw [hl]; exact decide_eq_true (by omega)
  have hE : bodyE (s :: intB v) false 0 ((octN v : Int) + 1) = 0 := by unfold bodyE; rw [hw]; rfl
  have hB : bodyB (s :: intB v) false 0 ((octN v : Int) + 1) = s :: intB v := by
    unfold bodyB
    rw [if_pos hE]
    unfold cutB
    rw [show ((octN v : Int) + 1).toNat = octN v + 1 by omega, List.take_of_length_le (by rw [hl]; exact Nat.le_refl _)]
    rfl
  unfold intE
  rw [hE, hB, if_neg (by simp), if_pos]
  right; right
  exact intB_more v h1 h2 s hs

set_option maxRecDepth 100000 in
set_option maxHeartbeats 8000000 in
theorem BerNumbers_walk (v : Int) (h1 : -9223372036854775808 ≤ v) (h2 : v < 9223372036854775808) (w : World) :
    Calls Try.prog 4 #[.int .i64 v] w fun e w' => e = .returned (.bool true) ∧ Ext w w' := by
  have hb := octN_bound v
  have hst := num_st v
  have hlen : Hid ((2 :: UInt8.ofNat (octN v) :: intB v).length = octN v + 2) := num_len v
  have hni : Hid _ := num_int v h1 h2
  have hnm : Hid _ := num_more v h1 h2
  obtain ⟨k, hk⟩ : ∃ k, octN v = k := ⟨_, rfl⟩
  rw [hk] at hb hlen hst hni
  obtain ⟨L, hL⟩ : ∃ L, intB v = L := ⟨_, rfl⟩
  have hLl : Hid (L.length = k) := by show _ = _; rw [← hL, ← hk]; exact twos_length _ _
  have hint : ∀ w1 p, Wk w w1 p st0 → Calls Try.prog 11 #[p, .int .i8 0, .int .i64 2, .int .i64 v] w1 fun x w' => x = .returned (.int .i64 0) ∧ Wk w w' p ⟨2 :: UInt8.ofNat k :: L, []⟩ := fun w1 p h =>
    (WInt_any w1 _ p st0 0 2 v h.1 (by decide) (by decide) h1 h2).mono fun _ w' ⟨e, hw⟩ => by
      rw [hst.1] at e; rw [hst.2, hL] at hw
      exact ⟨e, h.next hw⟩
  have hbytes : ∀ w1 p, Wk w w1 p ⟨2 :: UInt8.ofNat k :: L, []⟩ → Calls Try.prog 12 #[p] w1 fun x w' => ∃ g cap, x = .returned (.tuple #[.slice (some ⟨g, 0, none⟩) (k + 2) cap, .int .i64 0]) ∧ k + 2 ≤ cap ∧ RowB w' (fun q => w.heap.size ≤ q) (.slice (some ⟨g, 0, none⟩) (k + 2) cap) (2 :: UInt8.ofNat k :: L) ∧ Ext w w' := fun w1 p h =>
    (Bytes_any w1 _ p _ h.1 (by have := hlen.out; rw [hL] at this; simp only at this ⊢; omega)).mono fun _ w' ⟨u, e, hu, hx⟩ => by
      have hu' : RowB w' (fun q => w.heap.size ≤ q) u (2 :: UInt8.ofNat k :: L) := Row.wide hu (fun q hq => Nat.le_trans h.2.size hq)
      have hll : (2 :: UInt8.ofNat k :: L).length = k + 2 := by have := hlen.out; rwa [hL] at this
      rcases hu'.1.2 with ⟨_, h0⟩ | ⟨g, cap, cur, rfl, _, _, hc, _⟩
      · rw [hll] at h0; omega
      · rw [hll] at hc e hu'
        exact ⟨g, cap, e, hc, hu', h.2.trans hx⟩
  go_enter Try.func4, Try.ntmps4
  go_wp2_with (first
    | (go_at_call 10; refine (New_wk w w (Ext.refl w)).mono ?_; rintro _ w1 ⟨g, rfl, p1⟩)
    | (go_at_call 6; refine (works_any _).mono ?_; rintro _ w2 ⟨rfl, x2⟩; have p2 := p1.ext x2)
    | (go_at_call 11; refine (hint _ _ p2).mono ?_; rintro _ w3 ⟨rfl, p3⟩)
    | (go_at_call 12; refine (hbytes _ _ p3).mono ?_; rintro _ w4 ⟨g4, cap4, rfl, hc4, r4, x4⟩; have s4 := r4.sl
       have c1 : w4.cell? ⟨g4, 1, none⟩ = some (.int .u8 (k : Int)) := by
         have h9 := r4.cell 1 (by simp)
         rw [h9]
         congr 2
         simp; omega))
  have hri := Int_any w4 _ _ 0 false 2 2 ((k : Int) + 2) s4
  obtain ⟨hni1, hni2⟩ := hni.out
  rw [hL] at hni1 hni2
  rw [hni1, hni2] at hri
  refine hri.mono ?_
  rintro _ w5 ⟨rfl, x5⟩
  have s5 := s4.ext x5
  have hsub : Sl w5 (.slice (some ⟨g4, 2, none⟩) k (cap4 - 2)) L := by
    have h9 := s5.sub 2 (k + 2) (by omega) (by have := hlen.out; rw [hL] at this; omega)
    have e : cutB (2 :: UInt8.ofNat k :: L) 2 (k + 2) = L := by
      unfold cutB; rw [List.take_of_length_le (by have := hlen.out; rw [hL] at this; omega)]; rfl
    rw [e] at h9
    simpa [sliced, Addr.add, show ¬ cap4 = 2 by omega] using h9
  have hsubh : Hid (Sl w5 (.slice (some ⟨g4, 2, none⟩) k (cap4 - 2)) L) := hsub
  clear hsub s5 s4 hri hni1 hni2 c1
  by_cases hneg : v < 0
  · go_wp2_with (at_builtin; refine Hid.out ?_)
    refine wpList_byte rfl _ _ rfl w5 (fun _ => False) _ [] _ (row_nil _ _ _ _) rfl _ rfl rfl 255 (by rfl) (by simp) ?_
    intro g6 cap6 w6 r6 o6
    have x6 : Ext w5 w6 := o6.toExt (fun _ h => h.elim)
    simp only [List.length_nil, Nat.zero_add, List.nil_append] at r6
    have hsrc : Src Try.prog 1 22 (.slice (some ⟨g4, 2, none⟩) k (cap4 - 2)) k (L.map B8) w6 := by
      have h9 := src8v (hsubh.out.ext x6)
      rwa [hLl.out] at h9
    obtain ⟨w7, a7, cap7, hr, r7, o7⟩ := run_append8 w6 _ 22 22 _ [255] r6 _ k L hsrc hLl.out.symm (by have := hLl.out; simp; omega)
    simp only [List.length_cons, List.length_nil, Nat.zero_add, List.cons_append, List.nil_append] at hr r7
    have x7 : Ext w5 w7 := x6.then o7 (fun q hq => hq.elim (fun h => h.elim) (fun h => h))
    have hrm := Int_any w7 _ _ 0 false 2 0 ((k : Int) + 1) r7.sl
    have hm := hnm.out 255 (by rw [if_pos hneg]; rfl)
    rw [hL, hk] at hm
    rw [hm] at hrm
    have e1k : (1 : Int) + (k : Int) = (k : Int) + 1 := by omega
    go_wp2_with (at_builtin; refine Hid.out ?_)
    refine Lib.wpList_append_run _ rfl _ _ _ _ rfl _ _ rfl rfl _ _ hr ?_
    clear hr
    go_wp2_with (go_at_call 13; refine hrm.mono ?_; rintro _ w8 ⟨rfl, x8⟩)
    go_ret
    exact ⟨rfl, ((x4.trans x5).trans x7).trans x8⟩
  · go_wp2_with (at_builtin; refine Hid.out ?_)
    refine wpList_byte rfl _ _ rfl w5 (fun _ => False) _ [] _ (row_nil _ _ _ _) rfl _ rfl rfl 0 (by rfl) (by simp) ?_
    intro g6 cap6 w6 r6 o6
    have x6 : Ext w5 w6 := o6.toExt (fun _ h => h.elim)
    simp only [List.length_nil, Nat.zero_add, List.nil_append] at r6
    have hsrc : Src Try.prog 1 22 (.slice (some ⟨g4, 2, none⟩) k (cap4 - 2)) k (L.map B8) w6 := by
      have h9 := src8v (hsubh.out.ext x6)
      rwa [hLl.out] at h9
    obtain ⟨w7, a7, cap7, hr, r7, o7⟩ := run_append8 w6 _ 22 22 _ [0] r6 _ k L hsrc hLl.out.symm (by have := hLl.out; simp; omega)
    simp only [List.length_cons, List.length_nil, Nat.zero_add, List.cons_append, List.nil_append] at hr r7
    have x7 : Ext w5 w7 := x6.then o7 (fun q hq => hq.elim (fun h => h.elim) (fun h => h))
    have hrm := Int_any w7 _ _ 0 false 2 0 ((k : Int) + 1) r7.sl
    have hm := hnm.out 0 (by rw [if_neg (by omega)]; rfl)
    rw [hL, hk] at hm
    rw [hm] at hrm
    have e1k : (1 : Int) + (k : Int) = (k : Int) + 1 := by omega
    go_wp2_with (at_builtin; refine Hid.out ?_)
    refine Lib.wpList_append_run _ rfl _ _ _ _ rfl _ _ rfl rfl _ _ hr ?_
    clear hr
    go_wp2_with (go_at_call 13; refine hrm.mono ?_; rintro _ w8 ⟨rfl, x8⟩)
    go_ret
    exact ⟨rfl, ((x4.trans x5).trans x7).trans x8⟩
end Go.Proofs.Ytjannndndbohaab
