/-
  name.Steps.
-/
import Derived.Test.YtbgoddcpgogpdaaNst4
import Derived.Test.YtbgoddcpgogpdaaKmapToTra
import Derived.Deep.DeepCutAuto
namespace Go.Proofs.Ytbgoddcpgogpdaa
open Go.RowKit

/-- the parts; none where it is no row of steps -/
def stepsV (l : List UInt8) : List ByteArray := match stepsL l with
  | some q => q.map str
  | none => []
set_option maxRecDepth 100000 in
theorem Steps_any (w : World) (s : ByteArray) (hs : s.size ≤ 1000000000) :
    Calls Try.prog 28 #[.string s] w fun e w' => Ext w w' ∧ ∃ v, e = .returned v ∧ RowE 9 encS w' (fun k => w.heap.size ≤ k) v (stepsV (byt s)) := by
  have hc := cut_any w s hs
  go_enter Try.func28, Try.ntmps28
  go_wp2_with fail
  go_at_call 30
  refine hc.mono ?_
  rintro _ w1 ⟨x1, ⟨hn, rfl⟩ | ⟨q, v, hq, rfl, hrow⟩⟩
  · go_wp2
    go_ret
    refine ⟨x1, _, rfl, ?_⟩
    have : stepsV (byt s) = [] := by unfold stepsV; rw [hn]
    rw [this]
    exact row_nil _ _ _ _
  · obtain ⟨ra, rc, hre⟩ := row_slice hrow
    subst hre
    have hrh : Hid (RowE 9 encS w1 (fun k => w.heap.size ≤ k) (.slice ra (q.map str).length rc) (q.map str)) := hrow
    have hqh : Hid (stepsL (byt s) = some q) := hq
    clear hrow hq
    go_wp2
    go_ret
    refine ⟨x1, _, rfl, ?_⟩
    have : stepsV (byt s) = q.map str := by unfold stepsV; rw [hqh.out]
    rw [this]
    have h0 := hrh.out
    rw [List.length_map] at h0
    exact h0
end Go.Proofs.Ytbgoddcpgogpdaa

/-
  A tree: room, Add.
-/
namespace Go.Proofs.Ytbgoddcpgogpdaa
open Go.RowKit Go.Shelf Go.Maps

/-- the last step of a key; what stands above it -/
def lastK (k : ByteArray) : ByteArray := (stepsV (byt k)).getLast?.getD ⟨#[]⟩
def upK (k : ByteArray) : ByteArray := k.extract 0 (k.size - (lastK k).size)
def hasT (t : Tr ByteArray UInt64) (k : ByteArray) : Bool := (t.get cmpS k).isSome
/-- why nothing can be put at a key -/
def roomR (t : Tr ByteArray UInt64) (k : ByteArray) (stands : Bool) : Nat :=
  if (stepsV (byt k)).length = 0 then 60 else if (stands || hasT t k) = true then 150 else if (upK k).size ≠ 0 ∧ hasT t (upK k) = false then 210 else 0
theorem mem_flat {q : List (List UInt8)} {x : List UInt8} (h : x ∈ q) : x.length ≤ q.flatten.length := by
  induction q with
  | nil => cases h
  | cons a q ih =>
    simp only [List.flatten_cons, List.length_append]
    rcases List.mem_cons.1 h with rfl | h
    · omega
    · have := ih h; omega
theorem stepsV_le {k : ByteArray} {x : ByteArray} (h : x ∈ stepsV (byt k)) : x.size ≤ k.size := by
  unfold stepsV at h
  cases e : stepsL (byt k) with
  | none => rw [e] at h; cases h
  | some q =>
    rw [e] at h
    obtain ⟨y, hy, rfl⟩ := List.mem_map.1 h
    have h1 := (stepsL_join _ _ q (Nat.le_refl _) e).1
    have h2 := mem_flat hy
    rw [h1, byt_length] at h2
    rw [← byt_length, byt_str]
    exact h2
theorem lastK_le (k : ByteArray) : (lastK k).size ≤ k.size := by
  unfold lastK
  cases e : (stepsV (byt k)).getLast? with
  | none => exact Nat.zero_le _
  | some x => exact stepsV_le (List.mem_of_getLast? e)
set_option maxRecDepth 100000 in
set_option maxHeartbeats 2000000 in
theorem room_any (w : World) (T B M n : Nat) (t : Tr ByteArray UInt64) (f : UInt64 → Option ByteArray) (h : TrAt w T B M t f n) (k : ByteArray) (st : Bool) (hk : k.size ≤ 1000000000) :
    Calls Try.prog 32 #[.pointer (some ⟨T, 0, none⟩), .string k, .bool st] w fun e w' => e = .returned (.int .i64 (roomR t k st : Nat)) ∧ Ext w w' := by
  have hS := Steps_any w k hk
  have hH := fun W (x : Ext w W) (q : ByteArray) => has_any W T B M n t f (h.ext x) q
  have hle := lastK_le k
  obtain ⟨o, ho⟩ : ∃ o, Hid (o = roomR t k st) := ⟨_, rfl⟩
  rw [← ho.out]
  clear h
  go_enter Try.func32, Try.ntmps32
  go_wp2_with fail
  go_at_call 28
  refine hS.mono ?_
  rintro _ w1 ⟨x1, v, rfl, hrow⟩
  obtain ⟨ra, rc, hre⟩ := row_slice hrow
  subst hre
  have hsl := hrow.sl
  have hcap := hsl.len
  have hlast : Hid (lastK k = (stepsV (byt k)).getLast?.getD ⟨#[]⟩) := rfl
  obtain ⟨N, hN⟩ : ∃ N, Hid (N = (stepsV (byt k)).length) := ⟨_, rfl⟩
  have hlc : Hid (hasT t k = (t.get cmpS k).isSome ∧ ∀ q, hasT t q = (t.get cmpS q).isSome) := ⟨rfl, fun _ => rfl⟩
  have hH1 := hH w1 x1 k
  by_cases h0 : (stepsV (byt k)).length = 0
  · have hoq : Hid (o = 60) := by show _ = _; rw [ho.out]; unfold roomR; rw [if_pos h0]
    rw [h0]
    clear hS hH hH1 hrow hsl hcap hlast hN hlc ho h0
    go_wp2
    go_ret
    exact ⟨ret_i (by rw [hoq.out]; rfl), x1⟩
  · have hR : Hid (o = if (st || hasT t k) = true then 150 else if (upK k).size ≠ 0 ∧ hasT t (upK k) = false then 210 else 0) := by show _ = _; rw [ho.out]; unfold roomR; rw [if_neg h0]
    obtain ⟨m, hm⟩ : ∃ m, Hid (N = m + 1) := ⟨N - 1, by show _ = _; have := hN.out; omega⟩
    have hni : ((N : Int) == 0) = false := by have := hm.out; simp; omega
    have hnm : (N : Int) - 1 = (m : Int) := by have := hm.out; omega
    have hml : m < (stepsV (byt k)).length := by have := hm.out; have := hN.out; omega
    obtain ⟨g, o1, hra, hc⟩ := hsl.at m hml
    subst hra
    have hlv : Hid (lastK k = (stepsV (byt k))[m]) := by
      show _ = _
      rw [hlast.out, List.getLast?_eq_getElem?, List.getElem?_eq_getElem (by have := hm.out; have := hN.out; omega)]
      simp only [Option.getD_some]
      congr 1
      have := hm.out; have := hN.out; omega
    rw [← hlv.out] at hc
    rw [← hN.out] at hcap ⊢
    obtain ⟨-, hc2, hc3⟩ := hcap
    have hmN : m < N := by have := hm.out; omega
    unfold maxLen at hc3
    simp only [encS] at hc
    clear hrow hsl hlast hml hlv ho h0 hS
    cases st with
    | true =>
      have hoq : Hid (o = 150) := hR.out
      clear hR hH hH1 hlc
      go_wp2
      go_ret
      exact ⟨ret_i (by rw [hoq.out]; rfl), x1⟩
    | false =>
      rw [← (hlc.out).1] at hH1
      cases hb : hasT t k with
      | true =>
        rw [hb] at hH1
        have hoq : Hid (o = 150) := by show _ = _; rw [hR.out, hb]; rfl
        clear hR hH hlc hb
        go_wp2_with fail
        go_at_call 29
        refine hH1.mono ?_
        rintro _ w2 ⟨rfl, x2⟩
        go_wp2
        go_ret
        exact ⟨ret_i (by rw [hoq.out]; rfl), x1.trans x2⟩
      | false =>
        rw [hb] at hH1
        have hR2 : Hid (o = if (upK k).size ≠ 0 ∧ hasT t (upK k) = false then 210 else 0) := by show _ = _; rw [hR.out, hb]; rfl
        obtain ⟨x, hx⟩ : ∃ x, Hid (x = k.size - (lastK k).size) := ⟨_, rfl⟩
        have hxi : (k.size : Int) - ((lastK k).size : Int) = (x : Int) := by have := hx.out; omega
        have hxk : x ≤ k.size := by have := hx.out; omega
        have hup : Hid (upK k = k.extract 0 x) := by show _ = _; unfold upK; rw [hx.out]
        clear hR hb
        go_wp2_with fail
        go_at_call 29
        refine hH1.mono ?_
        rintro _ w2 ⟨rfl, x2⟩
        have hc' := x2.cell hc
        have hH2 := hH w2 (x1.trans x2) (upK k)
        rw [← (hlc.out).2] at hH2
        rw [hup.out] at hH2 hR2
        have hlg : Hid (lastK k = lastK k) := rfl
        clear hlc hup hc hH hH1
        generalize lastK k = lk at *
        go_upto_region 7 with fail
        generalize hasT t (k.extract 0 x) = b2 at hH2 hR2
        generalize k.extract 0 x = u at *
        by_cases hu : u.size = 0
        · have hoq : Hid (o = 0) := by show _ = _; rw [hR2.out, if_neg (by simp [hu])]
          have hue : (u.toList == []) = true := by
            rw [beq_iff_eq, ByteArray.toList_eq]
            exact List.eq_nil_of_length_eq_zero (by have := byt_length u; unfold byt at this; omega)
          clear hR2 hH2 hu
          go_wp2
          go_ret
          exact ⟨ret_i (by rw [hoq.out]; rfl), x1.trans x2⟩
        · have hue : (u.toList == []) = false := by
            rw [beq_eq_false_iff_ne, ByteArray.toList_eq]
            intro e
            have := byt_length u
            unfold byt at this
            rw [e] at this
            simp at this
            omega
          cases b2 with
          | true =>
            have hoq : Hid (o = 0) := by show _ = _; rw [hR2.out, if_neg (by simp)]
            clear hR2 hu
            go_wp2_with fail
            go_at_call 29
            refine hH2.mono ?_
            rintro _ w3 ⟨rfl, x3⟩
            go_wp2
            go_ret
            exact ⟨ret_i (by rw [hoq.out]; rfl), (x1.trans x2).trans x3⟩
          | false =>
            have hoq : Hid (o = 210) := by show _ = _; rw [hR2.out, if_pos ⟨hu, rfl⟩]
            clear hR2 hu
            go_wp2_with fail
            go_at_call 29
            refine hH2.mono ?_
            rintro _ w3 ⟨rfl, x3⟩
            go_wp2
            go_ret
            exact ⟨ret_i (by rw [hoq.out]; rfl), (x1.trans x2).trans x3⟩
set_option maxRecDepth 100000 in
theorem Add_nil (w : World) (k : ByteArray) (id : UInt64) : Calls Try.prog 22 #[.pointer none, .string k, .int .u64 id.toNat] w fun e w' => e = .returned (.int .i64 1) ∧ w' = w := by
  go_enter Try.func22, Try.ntmps22
  go_wp2
  go_ret
  exact ⟨rfl, rfl⟩
/-- what Add answers -/
def addR (t : Tr ByteArray UInt64) (f : UInt64 → Option ByteArray) (k : ByteArray) (id : UInt64) : Nat := roomR t k (f id).isSome
set_option maxRecDepth 100000 in
set_option maxHeartbeats 2000000 in
theorem Add_any (w : World) (T B M n : Nat) (t : Tr ByteArray UInt64) (f : UInt64 → Option ByteArray) (h : TrAt w T B M t f n) (k : ByteArray) (id : UInt64) (hk : k.size ≤ 1000000000) (hn : n < maxLen) (hc : t.cnt ≤ 100000000000000) :
    Calls Try.prog 22 #[.pointer (some ⟨T, 0, none⟩), .string k, .int .u64 id.toNat] w fun e w' => e = .returned (.int .i64 (addR t f k id : Nat)) ∧ Hid (if addR t f k id = 0 then TrAt w' T B M (t.put cmpS k id) (updK f id (some k)) (n + 1) else TrAt w' T B M t f n) ∧ Only (fun g => g = B ∨ g = M) w w' := by
  obtain ⟨c0, c1⟩ := h.cells
  have hl := h.km.look_ok id
  unfold addR
  generalize (f id).getD ⟨#[]⟩ = s0 at hl
  have hRm := room_any w T B M n t f h k (f id).isSome hk
  generalize (f id).isSome = st at *
  have hP := fun W (x : Ext w W) => tput_any W T B M n t f (h.ext x) k id (by unfold maxLen; omega) hn hc
  have hh : Hid (TrAt w T B M t f n) := h
  obtain ⟨r, hr⟩ : ∃ r, Hid (r = roomR t k st) := ⟨_, rfl⟩
  rw [← hr.out] at hRm ⊢
  clear h c0 hr
  by_cases h0 : r = 0
  · subst h0
    go_enter Try.func22, Try.ntmps22
    go_wp2_with fail
    go_at_call 32
    refine hRm.mono ?_
    rintro _ w1 ⟨rfl, x1⟩
    have hP1 := hP w1 x1
    go_wp2_with fail
    go_at_call 35
    refine hP1.mono ?_
    rintro _ w2 ⟨rfl, h2, o2⟩
    have h2h : Hid _ := h2
    clear h2 hP hP1 hRm hl c1 hh
    go_wp2
    go_ret
    exact ⟨rfl, h2h, x1.only.then o2⟩
  · have hri : ((r : Int) == 0) = false := by simp; omega
    clear hP
    go_enter Try.func22, Try.ntmps22
    go_wp2_with fail
    go_at_call 32
    refine hRm.mono ?_
    rintro _ w1 ⟨rfl, x1⟩
    have h1 : Hid (TrAt w1 T B M t f n) := hh.out.ext x1
    clear hRm hl c1 hh
    go_wp2
    go_ret
    exact ⟨rfl, h1, x1.only⟩
end Go.Proofs.Ytbgoddcpgogpdaa
