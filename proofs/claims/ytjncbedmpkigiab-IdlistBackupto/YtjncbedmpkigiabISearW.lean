/-
  IdlistSearched: the walk.
-/
import Derived.Test.YtjncbedmpkigiabIsp
import Derived.Test.YtjncbedmpkigiabIlaw
import Derived.Test.YtjncbedmpkigiabIwake
import Derived.Deep.DeepCutAuto
namespace Go.Proofs.Ytjncbedmpkigiab
open Go.RowKit Go.Shelf

theorem slS_one {w : World} {v : Value} {l : List UInt64} (h : Sl U6 w v l) (e : TypeId) : SlS (w.alloc (.cells #[v] e)) (.slice (some ⟨w.heap.size, 0, none⟩) 1 1) [l] := by
  refine ⟨[v], sl_lit (enc := fun x : Value => x) w #[v] e [v] 1 rfl rfl (by decide), rfl, fun i h1 h2 => ?_⟩
  have : i = 0 := by simp at h1; omega
  subst this
  exact h.ext ((Ext.refl _).alloc _)
theorem find_right {s : List UInt64} (hr : Rises s) (fro : Int) (id : UInt64) (m : Nat) (hm : min (max fro 0) (s.length : Int) = (m : Int)) : findL s fro id = ((max (placeL s id) m : Nat) : Int) := by
  unfold findL
  rw [if_pos (show rightB s = true from decide_eq_true hr), hm, Int.toNat_natCast, place_from hr id m (by omega)]

set_option maxRecDepth 100000 in
set_option maxHeartbeats 4000000 in
theorem searched_walk (C : List UInt64 → Prop) (hset : SetFor C) (w : World) (v : Value) (l : List UInt64) (fro : Int) (id : UInt64) (hC : C l) (hs : Sl U6 w v l) (hl : l.length ≤ 17592186044416) :
    Calls Try.prog 5 #[v, .int .i64 fro, .int .u64 id.toNat] w fun x w' => x = .returned (.bool true) ∧ Ext w w' := by
  obtain ⟨s, hsS⟩ : ∃ s, setL l = s := ⟨_, rfl⟩
  have hr0 : Rises s := hsS ▸ rises_setL l
  have hr : Hid (Rises s ∧ setL l = s) := ⟨hr0, hsS⟩
  have hsl : s.length ≤ 17592186044416 := by have := setL_len l; rw [hsS] at this; omega
  have hU := fun w1 (h : Ext w w1) => Union_one C hset (w1.alloc (.cells #[v] 22)) (.slice (some ⟨w1.heap.size, 0, none⟩) 1 1) l hC hl (slS_one (hs.ext h) 22)
  simp only [union_one, hsS] at hU
  obtain ⟨i1, i2, i3⟩ := place_spec id s
  have hhas := place_has hr0 id
  have f1 := find_right hr0 0 id 0 (by omega)
  obtain ⟨m, hm⟩ : ∃ m : Nat, min (max fro 0) (s.length : Int) = (m : Int) := ⟨(min (max fro 0) (s.length : Int)).toNat, by omega⟩
  have f2 := find_right hr0 fro id m hm
  obtain ⟨k, hk⟩ : ∃ k, placeL s id = k := ⟨_, rfl⟩
  simp only [hk] at i1 i2 i3 hhas f1 f2
  rw [Nat.max_eq_left (Nat.zero_le _)] at f1
  obtain ⟨M, hM⟩ : ∃ M, max k m = M := ⟨_, rfl⟩
  rw [hM] at f2
  have hMi : max (k : Int) (m : Int) = (M : Int) := by omega
  have hF0 := fun w1 u (h : Sl U6 w1 u s) => Find_any w1 u s 0 id h hsl
  have hF1 := fun w1 u (h : Sl U6 w1 u s) => Find_any w1 u s fro id h hsl
  rw [f1] at hF0
  rw [f2] at hF1
  have hH := fun w1 u (h : Sl U6 w1 u s) => Has_any w1 u s id h
  obtain ⟨D, hD⟩ : ∃ D, decide (id ∈ s) = D := ⟨_, rfl⟩
  rw [hD] at hH
  have hlr := fun w1 (h : Ext w w1) => lright_any w1 v l (hs.ext h)
  have hfl := fun w1 (h : Ext w w1) => Find_any w1 v l fro id (hs.ext h) hl
  have hRi := fun w1 (h : Ext w w1) => Right_any w1 v l (hs.ext h)
  have hsm := fun w1 u (h : Ext w w1) (hu : Sl U6 w1 u s) => lsame_any w1 u v s l hu (hs.ext h)
  have hwk := fun w1 => wakes_any w1
  obtain ⟨N, hN⟩ : ∃ N, s.length = N := ⟨_, rfl⟩
  have hNh : Hid (s.length = N) := hN
  have hFa : Hid ((∀ j (h : j < s.length), j < k → s[j] < id) ∧ (∀ h : k < s.length, ¬ s[k] < id) ∧ (id ∈ s ↔ ∃ h : k < s.length, s[k] = id) ∧ decide (id ∈ s) = D ∧ max k m = M) := ⟨i2, i3, hhas, hD, hM⟩
  rw [hN] at hm i1 hsl
  obtain ⟨a, n, cap, rfl, hnl⟩ := hs.shape
  clear i2 i3 hhas hD hM hN hr0 hsS hk f1 f2 hs
  go_enter Try.func5, Try.ntmps5
  go_upto_region 3 with (first
    | (go_at_call 6; refine (hU _ (Ext.refl _)).mono ?_; rintro _ w1 ⟨u, rfl, ru, x1⟩; obtain ⟨ua, un, uc, rfl, hun⟩ := ru.sl.shape)
    | (go_at_call 17; refine (hF0 _ _ ru.sl).mono ?_; rintro _ w2 ⟨rfl, x2⟩))
  have sl2 : Hid (Sl U6 w2 (.slice ua un uc) s) := ru.sl.ext x2
  have x02 : Ext w w2 := ((Ext.refl w).alloc _).trans (x1.trans x2)
  have hunN : un = N := hun.out.trans hNh.out
  have hNc : N ≤ uc := by have := sl2.out.len; omega
  subst hunN
  clear hun ru x1 x2 hU hF0
  go_cut [50] from 10 (fun s50 wx => s50 = .bool false ∧ wx = w2)
  case first =>
    have hg1 : decide ((un : Int) < (k : Int)) = false := by simp only [decide_eq_false_iff_not]; omega
    have hg2 : decide (un < k) = false := by simp only [decide_eq_false_iff_not]; omega
    by_cases hk0 : 0 < k
    · by_cases hkN : k < un
      · obtain ⟨km, hkm⟩ : ∃ km, km = k - 1 := ⟨_, rfl⟩
        have hkmi : (k : Int) - 1 = (km : Int) := by omega
        have hkmN : km < un := by omega
        obtain ⟨g, o, rfl, c1⟩ := sl2.out.at km (by have := hNh.out; omega)
        obtain ⟨A, hA⟩ : ∃ A, s[km]'(by have := hNh.out; omega) = A := ⟨_, rfl⟩
        have hAl : decide ((id.toNat : Int) ≤ (A.toNat : Int)) = false := by
          have := hFa.out.1 km (by have := hNh.out; omega) (by omega)
          rw [hA, u_lt] at this
          simp only [decide_eq_false_iff_not]; omega
        have hAl2 : decide (id.toNat ≤ A.toNat) = false := by
          simp only [decide_eq_false_iff_not] at hAl ⊢; omega
        rw [hA] at c1
        unfold U6 at c1
        have hk0i : (0 : Int) < (k : Int) := by omega
        clear hA hkm
        obtain ⟨g2, o2, e2, c2⟩ := sl2.out.at k (by have := hNh.out; omega)
        simp only [Option.some.injEq, Addr.mk.injEq, and_true] at e2
        obtain ⟨rfl, rfl⟩ := e2
        obtain ⟨B, hB⟩ : ∃ B, s[k]'(by have := hNh.out; omega) = B := ⟨_, rfl⟩
        have hBl : decide ((B.toNat : Int) < (id.toNat : Int)) = false := by
          have := hFa.out.2.1 (by have := hNh.out; omega)
          rw [hB, u_lt] at this
          simp only [decide_eq_false_iff_not]; omega
        have hBl2 : decide (B.toNat < id.toNat) = false := by
          simp only [decide_eq_false_iff_not] at hBl ⊢; omega
        rw [hB] at c2
        unfold U6 at c2
        have hkNi : (k : Int) < (un : Int) := by omega
        clear hB
        go_wp2_with fail
        go_meet
        case rel => exact ⟨rfl, rfl⟩
      · obtain ⟨km, hkm⟩ : ∃ km, km = k - 1 := ⟨_, rfl⟩
        have hkmi : (k : Int) - 1 = (km : Int) := by omega
        have hkmN : km < un := by omega
        obtain ⟨g, o, rfl, c1⟩ := sl2.out.at km (by have := hNh.out; omega)
        obtain ⟨A, hA⟩ : ∃ A, s[km]'(by have := hNh.out; omega) = A := ⟨_, rfl⟩
        have hAl : decide ((id.toNat : Int) ≤ (A.toNat : Int)) = false := by
          have := hFa.out.1 km (by have := hNh.out; omega) (by omega)
          rw [hA, u_lt] at this
          simp only [decide_eq_false_iff_not]; omega
        have hAl2 : decide (id.toNat ≤ A.toNat) = false := by
          simp only [decide_eq_false_iff_not] at hAl ⊢; omega
        rw [hA] at c1
        unfold U6 at c1
        have hk0i : (0 : Int) < (k : Int) := by omega
        clear hA hkm
        have hkNi : decide ((k : Int) < (un : Int)) = false := by simp only [decide_eq_false_iff_not]; omega
        have hkNj : decide (k < un) = false := by simp only [decide_eq_false_iff_not]; omega
        go_wp2_with fail
        go_meet
        case rel => exact ⟨rfl, rfl⟩
    · by_cases hkN : k < un
      · obtain ⟨g2, o2, e2, c2⟩ := sl2.out.at k (by have := hNh.out; omega)
        obtain rfl := e2
        obtain ⟨B, hB⟩ : ∃ B, s[k]'(by have := hNh.out; omega) = B := ⟨_, rfl⟩
        have hBl : decide ((B.toNat : Int) < (id.toNat : Int)) = false := by
          have := hFa.out.2.1 (by have := hNh.out; omega)
          rw [hB, u_lt] at this
          simp only [decide_eq_false_iff_not]; omega
        have hBl2 : decide (B.toNat < id.toNat) = false := by
          simp only [decide_eq_false_iff_not] at hBl ⊢; omega
        rw [hB] at c2
        unfold U6 at c2
        have hkNi : (k : Int) < (un : Int) := by omega
        clear hB
        have hk0i : decide ((0 : Int) < (k : Int)) = false := by simp only [decide_eq_false_iff_not]; omega
        have hk0j : decide (0 < k) = false := by simp only [decide_eq_false_iff_not]; omega
        go_wp2_with fail
        go_meet
        case rel => exact ⟨rfl, rfl⟩
      · have hk0i : decide ((0 : Int) < (k : Int)) = false := by simp only [decide_eq_false_iff_not]; omega
        have hk0j : decide (0 < k) = false := by simp only [decide_eq_false_iff_not]; omega
        have hkNi : decide ((k : Int) < (un : Int)) = false := by simp only [decide_eq_false_iff_not]; omega
        have hkNj : decide (k < un) = false := by simp only [decide_eq_false_iff_not]; omega
        go_wp2_with fail
        go_meet
        case rel => exact ⟨rfl, rfl⟩
  case rest =>
    obtain ⟨rfl, rfl⟩ := hcut
    have hmI : (if (un : Int) < (if fro < 0 then 0 else fro) then (un : Int) else if fro < 0 then 0 else fro) = (m : Int) := by
      split <;> split <;> omega
    have hMI : (if (k : Int) < (m : Int) then (m : Int) else (k : Int)) = (M : Int) := by
      split <;> omega
    go_upto_region 6 with fail
    go_cut [81] from 10 (fun s81 wx => s81 = .bool false ∧ Ext wc wx)
    case first =>
      by_cases hkN : k < un
      · obtain ⟨g2, o2, e2, c2⟩ := sl2.out.at k (by have := hNh.out; omega)
        obtain rfl := e2
        obtain ⟨B, hB⟩ : ∃ B, s[k]'(by have := hNh.out; omega) = B := ⟨_, rfl⟩
        have hDB : Hid (D = decide (B = id)) := by
          show _ = _
          rw [← hFa.out.2.2.2.1, decide_eq_decide, hFa.out.2.2.1]
          exact ⟨fun ⟨_, e⟩ => by rw [← hB]; exact e, fun e => ⟨by have := hNh.out; omega, by rw [hB]; exact e⟩⟩
        have hkNi : (k : Int) < (un : Int) := by omega
        rw [hB] at c2
        unfold U6 at c2
        clear hB
        have c3 : ∀ w3, Ext wc w3 → w3.cell? ⟨g2, o2 + k, none⟩ = some (.int .u64 (B.toNat : Int)) := fun w3 h => h.cell c2
        by_cases hBi : B = id
        · have hb : ((B.toNat : Int) == (id.toNat : Int)) = true := by rw [hBi]; exact beq_self_eq_true _
          have hDt : D = true := by rw [hDB.out]; exact decide_eq_true hBi
          subst hDt
          clear hDB hBi c2
          go_wp2_with (first
            | (go_at_call 17; refine (hF1 _ _ sl2.out).mono ?_; rintro _ w3 ⟨rfl, x3⟩; have c4 := c3 _ x3)
            | (go_at_call 9; refine (hH _ _ (sl2.out.ext x3)).mono ?_; rintro _ w4 ⟨rfl, hw⟩; obtain rfl := hw.symm))
          all_goals go_meet
          all_goals exact ⟨by simp, x3⟩
        · have hb : ((B.toNat : Int) == (id.toNat : Int)) = false := by simpa using neI hBi
          have hDt : D = false := by rw [hDB.out]; exact decide_eq_false hBi
          subst hDt
          clear hDB hBi c2
          go_wp2_with (first
            | (go_at_call 17; refine (hF1 _ _ sl2.out).mono ?_; rintro _ w3 ⟨rfl, x3⟩; have c4 := c3 _ x3)
            | (go_at_call 9; refine (hH _ _ (sl2.out.ext x3)).mono ?_; rintro _ w4 ⟨rfl, hw⟩; obtain rfl := hw.symm))
          all_goals go_meet
          all_goals exact ⟨by simp, x3⟩
      · have hkNi : decide ((k : Int) < (un : Int)) = false := by simp only [decide_eq_false_iff_not]; omega
        have hkNj : decide (k < un) = false := by simp only [decide_eq_false_iff_not]; omega
        have hDf : D = false := by
          rw [← hFa.out.2.2.2.1, decide_eq_false_iff_not, hFa.out.2.2.1]
          rintro ⟨h, _⟩
          have := hNh.out; omega
        subst hDf
        go_wp2_with (first
          | (go_at_call 17; refine (hF1 _ _ sl2.out).mono ?_; rintro _ w3 ⟨rfl, x3⟩)
          | (go_at_call 9; refine (hH _ _ (sl2.out.ext x3)).mono ?_; rintro _ w4 ⟨rfl, hw⟩; obtain rfl := hw.symm))
        all_goals go_meet
        all_goals exact ⟨by simp, x3⟩
    case rest =>
      obtain ⟨rfl, x3⟩ := hcut
      have x03 : Ext w wc := x02.trans x3
      have sl3 : Hid (Sl U6 wc (.slice ua un uc) s) := sl2.out.ext x3
      by_cases hri : Rises l
      · have hrb : rightB l = true := decide_eq_true hri
        rw [hrb] at hlr hRi
        have hsl9 : Hid (s = l) := by show _ = _; rw [← hr.out.2, setL_rises hri]
        rw [decide_eq_true hsl9.out] at hsm
        clear hri hrb
        go_wp2_with (first
          | (go_at_call 10; refine (hlr _ x03).mono ?_; rintro _ w4 ⟨rfl, x4⟩)
          | (go_at_call 18; refine (hRi _ (x03.trans x4)).mono ?_; rintro _ w5 ⟨rfl, x5⟩)
          | (go_at_call 11; refine (hsm _ _ ((x03.trans x4).trans x5) (sl3.out.ext (x4.trans x5))).mono ?_; rintro _ w6 ⟨rfl, x6⟩)
          | (go_at_call 14; refine (hwk _).mono ?_; rintro _ w7 ⟨rfl, x7⟩))
        all_goals go_ret
        all_goals exact ⟨by simp, (((x03.trans x4).trans x5).trans x6).trans x7⟩
      · have hrb : rightB l = false := decide_eq_false hri
        have hfv : findL l fro id = -1 := by unfold findL; rw [hrb]; rfl
        rw [hrb] at hlr hRi
        rw [hfv] at hfl
        clear hri hrb hfv
        go_wp2_with (first
          | (go_at_call 10; refine (hlr _ x03).mono ?_; rintro _ w4 ⟨rfl, x4⟩)
          | (go_at_call 17; refine (hfl _ (x03.trans x4)).mono ?_; rintro _ w5 ⟨rfl, x5⟩)
          | (go_at_call 18; refine (hRi _ ((x03.trans x4).trans x5)).mono ?_; rintro _ w6 ⟨rfl, x6⟩)
          | (go_at_call 14; refine (hwk _).mono ?_; rintro _ w7 ⟨rfl, x7⟩))
        all_goals go_ret
        all_goals exact ⟨by simp, (((x03.trans x4).trans x5).trans x6).trans x7⟩
end Go.Proofs.Ytjncbedmpkigiab
