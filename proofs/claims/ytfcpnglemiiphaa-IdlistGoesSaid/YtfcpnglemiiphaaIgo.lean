/-
  From, the document's From; through.
-/
import Derived.Test.YtfcpnglemiiphaaIval
import Derived.Test.YtfcpnglemiiphaaIthose
import Derived.Test.YtfcpnglemiiphaaRset
namespace Go.Proofs.Ytfcpnglemiiphaa
open Go.RowKit Go.Shelf
attribute [local go_sem] Oper.semAt_some

abbrev valF (Bs : Nat) : Value := .func (.func 58) #[] #[.pointer (some ⟨Bs, 0, none⟩)]
section
set_option maxRecDepth 100000
set_option maxHeartbeats 4000000
theorem From_any (C : List UInt64 → Prop) (hset : SetFor C) (w : World) (v : Value) (l : List UInt64) (id : UInt64) (hC : C l) (hl : l.length ≤ 17592186044416) (hs : Sl U6 w v l) :
    Calls Try.prog 25 #[v, .int .u64 id.toNat] w fun x w' => ∃ Bs u, x = .returned (valF Bs) ∧ Boxed w' Bs 22 u ∧ RowE 33 U6 w' (fun q => w.heap.size ≤ q) u ((setL l).drop (placeL (setL l) id)) ∧ w.heap.size ≤ Bs ∧ Ext w w' := by
  have h1 := hset w v l hC hs
  have hsl : (setL l).length ≤ 17592186044416 := Nat.le_trans (setL_len l) hl
  have hr := rises_setL l
  have h2 := fun w1 u (h : Sl U6 w1 u (setL l)) => place_any w1 u (setL l) id h hsl hr
  have h3 := fun w1 u (h : Sl U6 w1 u (setL l)) => behind_any w1 u (setL l) (placeL (setL l) id) h (place_spec id (setL l)).1
  have h4 := fun w1 u (h : Sl U6 w1 u ((setL l).drop (placeL (setL l) id))) => fresh_any w1 u _ h (by simp; omega)
  obtain ⟨a, n, c, rfl, _⟩ := hs.shape
  clear hs
  generalize placeL (setL l) id = k at *
  go_enter Try.func25, Try.ntmps25
  go_wp2_with fail
  go_at_call 39
  refine h1.mono ?_
  rintro _ w1 ⟨u1, rfl, s1, x1⟩
  obtain ⟨a1, n1, c1, rfl, _⟩ := s1.shape
  clear h1
  go_wp2_with fail
  go_at_call 43
  refine (h2 _ _ s1).mono ?_
  rintro _ w2 ⟨rfl, hw⟩
  obtain rfl := hw.symm
  clear h2 hw
  go_wp2_with fail
  go_at_call 44
  refine (h3 _ _ s1).mono ?_
  rintro _ w3 ⟨u3, rfl, ⟨s3, _⟩, hw⟩
  obtain rfl := hw.symm
  obtain ⟨a3, n3, c3, rfl, _⟩ := s3.shape
  clear h3 hw
  go_wp2_with fail
  go_at_call 38
  refine (h4 _ _ s3).mono ?_
  rintro _ w4 ⟨u4, rfl, r4, x4⟩
  obtain ⟨a4, n4, c4, rfl, _⟩ := r4.sl.shape
  have r4h : Hid (RowE 33 U6 w4 (fun q => w.heap.size ≤ q) (.slice a4 n4 c4) ((setL l).drop k)) := r4.to rfl rfl (fun q hq => Nat.le_trans x1.size hq)
  clear h4 r4
  go_wp2_with fail
  go_at_call 46
  refine (values_any w4 _ ⟨_, _, _, rfl⟩).mono ?_
  rintro _ w5 ⟨rfl, hw5⟩
  have hb : Boxed w5 w4.heap.size 22 (.slice a4 n4 c4) := by rw [hw5]; exact Boxed.new w4 _ _
  have x5 : Ext w4 w5 := by rw [hw5]; exact (Ext.refl _).alloc _
  clear hw5
  go_wp2_with fail
  go_ret
  exact ⟨_, _, rfl, hb, RowE.ext r4h.out x5, (x1.trans x4).size, (x1.trans x4).trans x5⟩

theorem rFrom_any (w : World) (v : Value) (l : List UInt64) (id : UInt64) (hl : l.length ≤ 17592186044416) (hs : Sl U6 w v l) :
    Calls Try.prog 26 #[v, .int .u64 id.toNat] w fun x w' => ∃ u, x = .returned u ∧ Sl U6 w' u ((setL l).drop (placeL (setL l) id)) ∧ Ext w w' := by
  have h1 := rset_any _ w v l (Nat.le_refl _) hl hs
  have hsl : (setL l).length ≤ 17592186044416 := Nat.le_trans (setL_len l) hl
  obtain ⟨p1, p2, p3⟩ := place_spec id (setL l)
  obtain ⟨a, n, c, rfl, _⟩ := hs.shape
  clear hs
  generalize setL l = s at *
  have hp : Hid ((∀ j (h : j < s.length), j < placeL s id → s[j] < id) ∧ (∀ h : placeL s id < s.length, ¬ s[placeL s id] < id)) := ⟨fun j h hj => p2 j h hj, p3⟩
  generalize placeL s id = k at *
  clear p2 p3
  go_enter Try.func26, Try.ntmps26
  go_wp2_with fail
  go_at_call 35
  refine h1.mono ?_
  rintro _ w1 ⟨u1, rfl, r1, x1⟩
  obtain ⟨a1, n1, c1, rfl, hn1⟩ := r1.sl.shape
  have s1 : Hid (Sl U6 w1 (.slice a1 n1 c1) s) := r1.sl
  have hcap := r1.sl.len.2.1
  have hkn : k ≤ n1 := by have := hn1.out; omega
  have hn1b : n1 ≤ 17592186044416 := by have := hn1.out; omega
  clear h1 r1 p1
  go_wp2
  go_loopw [6] (fun x6 wr => ∃ i : Nat, i ≤ k ∧ x6 = .int .i64 i ∧ wr = w1) (fun x6 _ => k - (intOf x6).toNat)
  case atStart => exact ⟨0, Nat.zero_le _, rfl, rfl⟩
  case round =>
    obtain ⟨i, hi, rfl, rfl⟩ := hrel
    by_cases hlt : i < n1
    · have hil : (i : Int) < (n1 : Int) := by omega
      have hid : decide (i < n1) = true := decide_eq_true hlt
      obtain ⟨g, o, rfl, ci⟩ := s1.out.at i (by have := hn1.out; omega)
      unfold U6 at ci
      obtain ⟨A, hA⟩ : ∃ A, s[i]'(by have := hn1.out; omega) = A := ⟨_, rfl⟩
      have hAh : Hid ((i < k → A < id) ∧ (i = k → ¬ A < id)) := ⟨fun h => by rw [← hA]; exact hp.out.1 i _ h, fun h => by subst h; rw [← hA]; exact hp.out.2 _⟩
      rw [hA] at ci
      clear hA
      by_cases hik : i < k
      · have hAi : (A.toNat : Int) < (id.toNat : Int) := ltI (hAh.out.1 hik)
        go_wp2
        go_roundw
        case rel => exact ⟨i + 1, hik, by go_num, by first | rfl | trivial⟩
        case measure => simp [intOf]; omega
      · obtain rfl : i = k := by omega
        have hA1 : decide ((A.toNat : Int) < (id.toNat : Int)) = false := by have := geI (hAh.out.2 rfl); simp only [decide_eq_false_iff_not]; omega
        have hA2 : decide (A.toNat < id.toNat) = false := by have := geI (hAh.out.2 rfl); simp only [decide_eq_false_iff_not]; omega
        have hd := sl_drop s1.out i (by have := hn1.out; omega)
        rw [if_neg (by omega)] at hd
        simp only [Option.map_some, Addr.add_lit] at hd
        have hdh : Hid (Sl U6 wr (.slice (some ⟨g, o + i, none⟩) (n1 - i) (c1 - i)) (s.drop i)) := hd
        clear hd
        go_wp2
        go_ret
        refine ⟨_, rfl, ?_, x1⟩
        exact hdh.out
    · obtain rfl : i = n1 := by omega
      obtain rfl : i = k := by omega
      have hnil : Hid (s.drop i = []) := List.drop_of_length_le (by have := hn1.out; omega)
      have hcm : c1 ≤ maxLen := s1.out.len.2.2
      have hcm0 : 0 ≤ maxLen := Nat.zero_le _
      have hlt2 : decide (i < i) = false := by simp
      go_wp2
      all_goals go_ret
      all_goals refine ⟨_, rfl, ?_, x1⟩
      all_goals rw [hnil.out]
      all_goals exact sl_nil (by first | rfl | omega) (by first | exact hcm0 | omega)

/-- what is gone through, at most so far -/
theorem through_any (w : World) (Bs : Nat) (u : Value) (xs : List UInt64) (most : Int) (hb : w.cell? ⟨Bs, 0, none⟩ = some u) (hu : Sl U6 w u xs) (hl : xs.length ≤ 17592186044416) :
    Calls Try.prog 27 #[valF Bs, .int .i64 most] w fun x w' => ∃ r, x = .returned r ∧ RowE 33 U6 w' (fun q => w.heap.size ≤ q) r (xs.take most.toNat) ∧ Ext w w' := by
  have iu : Hid (In (fun k => k < w.heap.size) u) := in_below hu
  have huh : Hid (Sl U6 w u xs) := hu
  have hbh : Hid (w.cell? ⟨Bs, 0, none⟩ = some u) := hb
  clear hu hb
  refine (callsIn_wide (n := 5)).1 ?_
  refine callsIn_of_wp_marks Try.func27 rfl trivial ?_ rfl
  simp only [Try.ntmps27, List.size_toArray, List.length_cons, List.length_nil, Nat.reduceAdd, Nat.reduceSub, Array.replicate_succ, Array.replicate_zero, List.push_toArray, List.append_toArray, List.nil_append, List.cons_append]
  gi_wp2_with fail
  obtain ⟨w5, hw5⟩ : ∃ W, W = (w.alloc (.cells #[.int .i64 most] 3)).alloc (.cells #[.slice none 0 0] 22) := ⟨_, rfl⟩
  have x5 : Ext w w5 := by rw [hw5]; exact ((Ext.refl w).alloc _).alloc _
  have z5 : w5.heap.size = w.heap.size + 2 := by rw [hw5]; simp
  have hY5 : Hid (Boxed w5 w.heap.size 3 (.int .i64 most)) := by rw [hw5]; exact (Boxed.new w _ _).alloc _
  have hf5 : Hid (Boxed w5 (w.heap.size + 1) 22 (.slice none 0 0)) := by
    rw [hw5]
    have h := Boxed.new (w.alloc (.cells #[.int .i64 most] 3)) 22 (.slice none 0 0)
    rwa [World.size_alloc] at h
  rw [← hw5]
  clear hw5
  have iu' : Hid (In (fun k => k < w.heap.size + 1) u) := fun a n c e h => Nat.lt_succ_of_lt (iu.out a n c e h)
  have hseq := val_stops 4 (by omega) Bs (fun q => q < w.heap.size + 1) u xs w5 iu'.out (x5.cell hbh.out) (huh.out.ext x5)
  refine wpIn_rangeFunc_ownF rfl (by omega) (gf := 58) (lb := #[.pointer (some ⟨Bs, 0, none⟩)]) rfl trivial (enters_of Try.func58 (by kernel_rfl) rfl)
    hseq Keep.trans (fun W l o o' _ hl ho _ => Keep.put W l o o' hl ho) (Below.refl _ _) (fun _ => rfl)
    (fun pre W => (pre.length ≤ most.toNat ∧ Acc (w.heap.size + 1) (fun q => w.heap.size + 1 ≤ q) W (pre.map fun i => xs[i.val])) ∧ Below (w.heap.size + 1) w5 W)
    (fun c pre' W => (c = .exit 0 ∧ ∃ (pre : List (Fin xs.length)) (x : Fin xs.length), pre' = pre ++ [x] ∧ pre.length = most.toNat ∧ Acc (w.heap.size + 1) (fun q => w.heap.size + 1 ≤ q) W (pre.map fun i => xs[i.val])) ∧ Below (w.heap.size + 1) w5 W)
    (OwnFrom.and (fun s W1 W2 row hs hg hr => ⟨hs.1, Acc.grownK hs.2 hg (fun r e => (hr r e).2)⟩) (ownFrom_below (by omega) (by omega)))
    (fun c => OwnFrom.and (fun s W1 W2 row hs hg hr => by
      obtain ⟨e0, pre, x, e, hz, ha⟩ := hs
      exact ⟨e0, pre, x, e, hz, ha.grownK hg (fun r e => (hr r e).2)⟩) (ownFrom_below (by omega) (by omega)))
    ⟨⟨Nat.zero_le _, _, hf5.out, row_nil _ _ _ _⟩, Below.refl _ _⟩
    (fun x => { tmps := #[valF Bs, Value.int IntKind.i64 most, undef, Value.pointer (some ⟨w.heap.size, 0, none⟩), Value.slice none 0 0, Value.pointer (some ⟨w.heap.size + 1, 0, none⟩), Value.int IntKind.u64 (xs[x.val].toNat : Int), valF Bs, Value.int IntKind.u64 (xs[x.val].toNat : Int),
          undef, undef, undef, undef, undef, undef, undef, undef, undef], defers := [] }) ?assign ?body ?done ?stop
  case assign =>
    intro l x W K hK
    dsimp only [encV]
    gi_wp2
    exact hK
  case body =>
    rintro l pre x W ⟨⟨hpm, v0, hbu, hru⟩, hbl⟩ hpl
    have cY := (show Boxed W w.heap.size 3 (.int .i64 most) from (hbl.block _ (by omega)).trans hY5.out).cell
    obtain ⟨id, hid⟩ : ∃ id, xs[x.val] = id := ⟨_, rfl⟩
    have hidh : Hid (xs[x.val] = id) := hid
    obtain ⟨a0, c0, e0⟩ := row_slice hru
    obtain ⟨N0, hN0⟩ : ∃ N0, (pre.map fun i => xs[i.val]).length = N0 := ⟨_, rfl⟩
    have hN0' : Hid (N0 = pre.length) := by show _ = _; rw [← hN0]; simp
    rw [hN0] at e0
    subst e0
    have hbuh : Hid (Boxed W (w.heap.size + 1) 22 (.slice a0 N0 c0)) := hbu
    have hruh : Hid (RowE 33 U6 W (fun q => w.heap.size + 1 ≤ q) (.slice a0 N0 c0) (pre.map fun i => xs[i.val])) := hru
    have hblh : Hid (Below (w.heap.size + 1) w5 W) := hbl
    have hcu := hbu.cell
    have hpmh : Hid (pre.length ≤ most.toNat) := hpm
    rw [hid]
    clear hid hbu hru hbl hpm hN0
    by_cases hlt : (N0 : Int) < most
    · have hd : decide (most ≤ (N0 : Int)) = false := by simp only [decide_eq_false_iff_not]; omega
      obtain ⟨v', W', hrun, ⟨va, vn, vc, rfl⟩, ⟨hc1, hf1⟩, hpost⟩ := Acc.push hbuh.out hruh.out (Nat.le_refl _) 22 id (id.toNat : Int) rfl (by simp; have := hN0'.out; omega)
      have hrunh : Hid ((Builtin.append_ #[22, 22] 22 #[.slice a0 N0 c0, .slice (some ⟨W.heap.size, 0, none⟩) 1 1]).run Try.prog (W.alloc (.cells #[.int .u64 (id.toNat : Int)] 33)) = .ok (.slice va vn vc) W') := hrun
      clear hrun
      gi_wp2_with (gi_at_builtin; refine Hid.out ?_)
      refine wpListIn_app rfl _ _ _ _ rfl _ _ rfl rfl _ _ hrunh.out ?_
      gi_wp2
      obtain ⟨p1, p2, p3⟩ := hpost.out
      refine ⟨p2, ⟨p3.size, fun k c t fz hk hc => (p3.block k hk).trans hc⟩, ⟨by have := hN0'.out; simp; omega, ?_⟩, hblh.out.trans p3⟩
      rw [List.map_append, List.map_singleton, hidh.out]
      exact p1
    · have hge : most ≤ (N0 : Int) := by omega
      gi_wp2
      exact ⟨KeepsOthers.ofExt (Ext.refl _), ⟨rfl, pre, ⟨x, rfl⟩, by have := hpmh.out; have := hN0'.out; omega, _, hbuh.out, hruh.out⟩, hblh.out⟩
  case done =>
    rintro D ys W hD ⟨hf, hyl⟩ ⟨⟨hym, v0, hbu, hru⟩, hbl⟩ hK
    have hmap := firsts_map (fun p => p) xs ys hf hyl
    simp only [List.map_id'] at hmap
    rw [hmap] at hru
    have hruh : Hid (RowE 33 U6 W (fun q => w.heap.size + 1 ≤ q) v0 (xs.take most.toNat)) := by rw [List.take_of_length_le (by omega)]; exact hru
    have hcu := hbu.cell
    clear hru hbu
    gi_wp2
    refine ⟨by simp, .inl ⟨_, _, rfl, run_takeDeferred hK, ?_⟩⟩
    refine ⟨_, results_tmp rfl _ _ _, ⟨_, rfl, ?_, ?_⟩⟩
    · exact (Row.grownK hruh.out (grownBy_putObj' W D _) (fun r e => by cases e; exact ⟨_, hK, rfl⟩)).wide (fun k hk => by omega)
    · have h1 : Below w.heap.size w W := Below.trans x5 (Below.mono hbl (by omega))
      exact h1.trans (belowK_b (w := w5) (by omega) W D _ _ hD hK rfl rfl)
  case stop =>
    rintro D c pre' W hD hf ⟨⟨rfl, pre, x, rfl, hz, v0, hbu, hru⟩, hbl⟩ hK
    have hxv : x.val = pre.length := by have := hf pre.length (by simp); simpa using this
    have hpm : pre.map (fun i => xs[i.val]) = xs.take pre.length := by
      refine List.ext_getElem (by simp; omega) fun j h1 h2 => ?_
      simp only [List.length_map] at h1
      have := hf j (by simp; omega)
      rw [List.getElem_append_left h1] at this
      simp only [List.getElem_map, List.getElem_take, this]
    rw [hpm, hz] at hru
    have hruh : Hid (RowE 33 U6 W (fun q => w.heap.size + 1 ≤ q) v0 (xs.take most.toNat)) := hru
    have hcu := hbu.cell
    clear hru hbu hpm hxv hz hf
    gi_wp2
    refine ⟨by simp, .inl ⟨_, _, rfl, run_takeDeferred hK, ?_⟩⟩
    refine ⟨_, results_tmp rfl _ _ _, ⟨_, rfl, ?_, ?_⟩⟩
    · exact (Row.grownK hruh.out (grownBy_putObj' W D _) (fun r e => by cases e; exact ⟨_, hK, rfl⟩)).wide (fun k hk => by omega)
    · have h1 : Below w.heap.size w W := Below.trans x5 (Below.mono hbl (by omega))
      exact h1.trans (belowK_b (w := w5) (by omega) W D _ _ hD hK rfl rfl)
end
end Go.Proofs.Ytfcpnglemiiphaa
