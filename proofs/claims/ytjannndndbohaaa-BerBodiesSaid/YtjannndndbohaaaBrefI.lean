/-
  The document's own Int answers as the program's.
-/
import Derived.Test.YtjannndndbohaaaBref
namespace Go.Proofs.Ytjannndndbohaaa
open Go.RowKit Go.Shelf

set_option maxRecDepth 100000 in
set_option maxHeartbeats 8000000 in
theorem rInt_any (w : World) (v : Value) (l : List UInt8) (c : Int) (b : Bool) (n f t : Int) (hs : Sl w v l) :
    Calls Try.prog 21 #[v, iv c b n f t] w fun x w' => x = .returned (.tuple #[.int .i64 (intV l b f t), .int .i64 (intE l b f t)]) ∧ Ext w w' := by
  have hbo : ∀ ob : Obj, Calls Try.prog 46 #[v, iv c b n f t] (w.alloc ob) fun x w' => ∃ u, x = .returned (.tuple #[u, .int .i64 (bodyE l b f t)]) ∧ Sl (w.alloc ob) u (bodyB l b f t) ∧ Ext (w.alloc ob) w' :=
    fun ob => rbody_any _ v l c b n f t (hs.ext ((Ext.refl w).alloc ob))
  have hE : Hid (intE l b f t = if bodyE l b f t ≠ 0 then bodyE l b f t
    else if (bodyB l b f t).length = 0 ∨ 8 < (bodyB l b f t).length ∨ padB (bodyB l b f t) = true then 23 else 0) := rfl
  have hV : Hid (intV l b f t = if intE l b f t = 0 then intL (bodyB l b f t) else 0) := rfl
  clear hs
  unfold iv at hbo ⊢
  obtain ⟨E, hEe⟩ : ∃ E, bodyE l b f t = E := ⟨_, rfl⟩
  obtain ⟨B, hBe⟩ : ∃ B, bodyB l b f t = B := ⟨_, rfl⟩
  rw [hEe] at hE; rw [hBe] at hE hV; simp only [hEe, hBe] at hbo
  clear hEe hBe
  by_cases hE0 : E = 0
  · subst hE0
    match B with
    | [] =>
      go_enter Try.func21, Try.ntmps21
      go_wp2_with (go_at_call 46; refine (hbo _).mono ?_; rintro _ w1 ⟨u, rfl, ⟨a2, cap2, rfl, q1, q2, q3⟩, hx⟩; clear q3 q1; dsimp only [List.length_nil])
      go_ret2
      rw [hV.out, hE.out]
      exact ⟨rfl, ((Ext.refl w).alloc _).trans hx⟩
    | x :: r =>
      obtain ⟨k, hk⟩ : ∃ k, r.length = k := ⟨_, rfl⟩
      have hlen : (x :: r).length = k + 1 := by simp [hk]
      by_cases h8 : 8 < k + 1
      · have hE2 : Hid (intE l b f t = 23) := by show _ = _; rw [hE.out, if_neg (by simp), if_pos (by right; left; rw [hlen]; exact h8)]
        go_enter Try.func21, Try.ntmps21
        go_wp2_with (go_at_call 46; refine (hbo _).mono ?_; rintro _ w1 ⟨u, rfl, ⟨a2, cap2, rfl, q1, q2, q3⟩, hx⟩; clear q3; rw [hlen] at q1 ⊢)
        go_ret2
        rw [hV.out, hE2.out]
        exact ⟨rfl, ((Ext.refl w).alloc _).trans hx⟩
      · have hk1 : k + 1 ≤ 8 := by omega
        have hk8 : decide ((8 : Int) < (k : Int) + 1) = false := by simp; omega
        have hk0 : decide ((k : Int) + 1 < 1) = false := by simp; omega
        have hpad : Hid (∀ y : UInt8, ∀ r', r = y :: r' → (padB (x :: r) = ((x.toNat == 0 && decide (y.toNat < 128)) || (x.toNat == 255 && decide (128 ≤ y.toNat))))) := fun y r' e => by rw [e]; rfl
        have hx256 : x.toNat < 256 := x.toNat_lt
        have hkh : Hid (r.length = k) := hk
        have hin : Hid (∀ j, j < k → ∃ y : Nat, y < 256 ∧ intL (x :: r.take (j + 1)) = 256 * intL (x :: r.take j) + (y : Int) ∧ ∀ (w1 : World) (g o : Nat), (∀ j (h : j < (x :: r).length), w1.cell? ⟨g, o + j, none⟩ = some (B8 (x :: r)[j])) → w1.cell? ⟨g, o + (j + 1), none⟩ = some (.int .u8 y)) := fun j hj => by
          have hjr : j < r.length := by rw [hkh.out]; exact hj
          refine ⟨r[j].toNat, r[j].toNat_lt, intL_take x r j hjr, fun w1 g o h => ?_⟩
          have := h (j + 1) (by simp; omega)
          rw [this]
          rfl
        have hbd : Hid (∀ j, j ≤ k → -(128 * 256 ^ j : Int) ≤ intL (x :: r.take j) ∧ intL (x :: r.take j) < 128 * 256 ^ j) := fun j hj => intL_bound x r j (by rw [hkh.out]; exact hj)
        obtain ⟨z, hz⟩ : ∃ z, s8 x.toNat = z := ⟨_, rfl⟩
        have hz0 : Hid (intL (x :: r.take 0) = z) := by show _ = _; rw [← hz]; rfl
        have hzk : Hid (intL (x :: r.take k) = intL (x :: r)) := by show _ = _; rw [List.take_of_length_le (by rw [hkh.out]; exact Nat.le_refl _)]
        have hzx : Hid (z = if x.toNat < 128 then (x.toNat : Int) else (x.toNat : Int) - 256) := by show _ = _; rw [← hz]; rfl
        obtain ⟨xn, hxn⟩ : ∃ xn : Nat, x.toNat = xn := ⟨_, rfl⟩
        rw [hxn] at hx256 hzx hpad
        obtain ⟨I, hI⟩ : ∃ I : Nat → Int, (fun j => intL (x :: r.take j)) = I := ⟨_, rfl⟩
        have hIj : ∀ j, intL (x :: r.take j) = I j := fun j => congrFun hI j
        simp only [hIj] at hin hbd hz0 hzk
        clear hIj hI hz
        have hE2 : Hid (intE l b f t = if padB (x :: r) = true then 23 else 0) := by
          show _ = _
          rw [hE.out, if_neg (by simp)]
          by_cases hp : padB (x :: r) = true
          · rw [if_pos (by right; right; exact hp), if_pos hp]
          · rw [if_neg (by
              rintro (h | h | h)
              · rw [hlen] at h; omega
              · rw [hlen] at h; omega
              · exact hp h), if_neg hp]
        have hbo2 : ∀ ob : Obj, Calls Try.prog 46 #[v, .agg #[.int .i8 c, .bool b, .int .i64 n, .int .i64 f, .int .i64 t]] (w.alloc ob) fun y w' => ∃ g o cap2, y = .returned (.tuple #[.slice (some ⟨g, o, none⟩) (k + 1) cap2, .int .i64 (0 : Int)]) ∧ k + 1 ≤ cap2 ∧ cap2 ≤ maxLen ∧ Hid (∀ j (h : j < (x :: r).length), w'.cell? ⟨g, o + j, none⟩ = some (B8 (x :: r)[j])) ∧ w'.cell? ⟨g, o, none⟩ = some (.int .u8 xn) ∧ Ext (w.alloc ob) w' := fun ob => by
          refine (hbo ob).mono ?_
          rintro _ w1 ⟨u, rfl, hu, hx⟩
          rcases (hu.ext hx).cases with ⟨_, _, hnil, _, _⟩ | ⟨g, o, cap2, hpos, rfl, q1, q2, q3⟩
          · cases hnil
          · have c0 := q3 0 (by simp)
            simp only [B8, List.getElem_cons_zero, Nat.add_zero, hxn] at c0
            exact ⟨g, o, cap2, by rw [hlen]; rfl, by rw [← hlen]; exact q1, q2, q3, c0, hx⟩
        clear hbo
        have hcases : (k = 0 ∧ xn < 128) ∨ (k = 0 ∧ 128 ≤ xn) ∨ (∃ y r', r = y :: r') := by
          match r, hkh.out with
          | [], h => simp at h; omega
          | y :: r', _ => exact .inr (.inr ⟨y, r', rfl⟩)
        have hone : k = 0 → padB (x :: r) = false := fun h => by
          have : r = [] := List.eq_nil_of_length_eq_zero (by rw [hkh.out, h])
          rw [this]; rfl
        rcases hcases with ⟨rfl, hx1⟩ | ⟨rfl, hx1⟩ | ⟨y, r', hr⟩
        · have hzv : z = (xn : Int) := by rw [hzx.out, if_pos hx1]
          have hx2 : decide ((128 : Int) ≤ (xn : Int)) = false := by simp; omega
          have hp0 : Hid (padB (x :: r) = false) := hone rfl
          clear hone
          go_enter Try.func21, Try.ntmps21
          go_wp2_with (go_at_call 46; refine (hbo2 _).mono ?_; rintro _ w1 ⟨g, o, cap2, rfl, q1, q2, q3h, c0, hx⟩)
          go_loopw [8, 9] (fun v i wr => v = .int .i64 (xn : Int) ∧ i = .int .i64 1 ∧ wr = w1) (fun _ _ _ => 0)
          case atStart => exact ⟨rfl, rfl, rfl⟩
          case round =>
            obtain ⟨rfl, rfl, rfl⟩ := hrel
            go_wp2
            go_ret2
            rw [hV.out, hE2.out, hp0.out]
            exact ⟨ret_ii (by rw [← hzv, ← hz0.out, hzk.out]; rfl) rfl, ((Ext.refl w).alloc _).trans hx⟩
        · have hzv : z = (xn : Int) - 256 := by rw [hzx.out, if_neg (by omega)]
          have hx2 : (128 : Int) ≤ (xn : Int) := by omega
          have hp0 : Hid (padB (x :: r) = false) := hone rfl
          clear hone
          go_enter Try.func21, Try.ntmps21
          go_wp2_with (go_at_call 46; refine (hbo2 _).mono ?_; rintro _ w1 ⟨g, o, cap2, rfl, q1, q2, q3h, c0, hx⟩)
          go_loopw [8, 9] (fun v i wr => v = .int .i64 ((xn : Int) - 256) ∧ i = .int .i64 1 ∧ wr = w1) (fun _ _ _ => 0)
          case atStart => exact ⟨rfl, rfl, rfl⟩
          case round =>
            obtain ⟨rfl, rfl, rfl⟩ := hrel
            go_wp2
            go_ret2
            rw [hV.out, hE2.out, hp0.out]
            exact ⟨ret_ii (by rw [← hzv, ← hz0.out, hzk.out]; rfl) rfl, ((Ext.refl w).alloc _).trans hx⟩
        · have hp := hpad.out y r' hr
          have hy256 : y.toNat < 256 := y.toNat_lt
          obtain ⟨yn, hyn⟩ : ∃ yn : Nat, y.toNat = yn := ⟨_, rfl⟩
          rw [hyn] at hp hy256
          have hk2 : 1 ≤ k := by rw [← hk, hr]; simp
          have hk3 : (1 : Int) < (k : Int) + 1 := by omega
          have c1f : Hid (∀ (w1 : World) (g o : Nat), (∀ j (h : j < (x :: r).length), w1.cell? ⟨g, o + j, none⟩ = some (B8 (x :: r)[j])) → w1.cell? ⟨g, o + 1, none⟩ = some (.int .u8 yn)) := fun w1 g o h => by
            have h9 := h 1 (by rw [hlen]; omega)
            rw [h9]
            simp only [hr, List.getElem_cons_succ, List.getElem_cons_zero, B8, hyn]
          have hph : Hid (padB (x :: r) = _) := hp
          clear hp hone
          have hcs : (xn = 0 ∧ yn < 128) ∨ (xn = 255 ∧ 128 ≤ yn) ∨ (xn = 0 ∧ 128 ≤ yn) ∨ (xn = 255 ∧ yn < 128) ∨ (xn ≠ 0 ∧ xn ≠ 255) := by omega
          rcases hcs with ⟨rfl, hy1⟩ | ⟨rfl, hy1⟩ | ⟨rfl, hy1⟩ | ⟨rfl, hy1⟩ | ⟨hx0, hx5⟩
          · have hP : Hid (padB (x :: r) = true) := by show _ = _; rw [hph.out]; simp; omega
            clear hph
            go_enter Try.func21, Try.ntmps21
            go_wp2_with (go_at_call 46; refine (hbo2 _).mono ?_; rintro _ w1 ⟨g, o, cap2, rfl, q1, q2, q3h, c0, hx⟩; have c1 := c1f.out _ _ _ q3h.out)
            go_ret2
            rw [hV.out, hE2.out, hP.out]
            exact ⟨rfl, ((Ext.refl w).alloc _).trans hx⟩
          · have hy2 : (128 : Int) ≤ (yn : Int) := by omega
            have hP : Hid (padB (x :: r) = true) := by show _ = _; rw [hph.out]; simp; omega
            clear hph
            go_enter Try.func21, Try.ntmps21
            go_wp2_with (go_at_call 46; refine (hbo2 _).mono ?_; rintro _ w1 ⟨g, o, cap2, rfl, q1, q2, q3h, c0, hx⟩; have c1 := c1f.out _ _ _ q3h.out)
            go_ret2
            rw [hV.out, hE2.out, hP.out]
            exact ⟨rfl, ((Ext.refl w).alloc _).trans hx⟩
          · have hy2 : decide ((yn : Int) < 128) = false := by simp; omega
            have hy3 : decide (yn < 128) = false := by simp; omega
            have hzv : z = 0 := by rw [hzx.out]; rfl
            have hP : Hid (padB (x :: r) = false) := by
              show _ = _; rw [hph.out, Bool.or_eq_false_iff, Bool.and_eq_false_iff, Bool.and_eq_false_iff]; simp; omega
            clear hph
            go_enter Try.func21, Try.ntmps21
            go_wp2_with (go_at_call 46; refine (hbo2 _).mono ?_; rintro _ w1 ⟨g, o, cap2, rfl, q1, q2, q3h, c0, hx⟩; have c1 := c1f.out _ _ _ q3h.out)
            go_loopw [8, 9] (fun v i wr => ∃ j : Nat, j ≤ k ∧ v = .int .i64 (I j) ∧ i = .int .i64 ((j : Int) + 1) ∧ wr = w1) (fun _ i _ => k + 1 - (intOf i).toNat)
            case atStart => exact ⟨0, Nat.zero_le _, by rw [hz0.out, hzv], rfl, rfl⟩
            case round =>
              obtain ⟨j, hj, rfl, rfl, rfl⟩ := hrel
              by_cases hlt : j < k
              · obtain ⟨q, hq, hqi, hqc⟩ := hin.out j hlt
                have hc := hqc wr g o q3h.out
                have hb := hbd.out j hj
                have hp : (256 : Int) ^ j ≤ 256 ^ 6 := by
                  have : (256 : Nat) ^ j ≤ 256 ^ 6 := Nat.pow_le_pow_right (by decide) (by omega)
                  exact_mod_cast this
                have hb1 : -9223372036854775808 ≤ 256 * I j := by omega
                have hb2 : 256 * I j + 255 < 9223372036854775808 := by omega
                have hqh : Hid (I (j + 1) = 256 * I j + (q : Int)) := hqi
                have hjt : ((j : Int) + 1).toNat = j + 1 := by omega
                clear hqc hb hp hqi c0 c1
                go_wp2
                go_roundw
                case rel => exact ⟨j + 1, by omega, by rw [hqh.out], by go_num, by first | rfl | trivial⟩
                case measure => simp [intOf]; omega
              · have hjk : j = k := by omega
                subst hjk
                go_wp2
                go_ret2
                rw [hV.out, hE2.out, hP.out]
                exact ⟨ret_ii (by rw [hzk.out]; rfl) rfl, ((Ext.refl w).alloc _).trans hx⟩
          · have hy2 : decide ((128 : Int) ≤ (yn : Int)) = false := by simp; omega
            have hy3 : decide (128 ≤ yn) = false := by simp; omega
            have hzv : z = -1 := by rw [hzx.out]; rfl
            have hP : Hid (padB (x :: r) = false) := by
              show _ = _; rw [hph.out, Bool.or_eq_false_iff, Bool.and_eq_false_iff, Bool.and_eq_false_iff]; simp; omega
            clear hph
            go_enter Try.func21, Try.ntmps21
            go_wp2_with (go_at_call 46; refine (hbo2 _).mono ?_; rintro _ w1 ⟨g, o, cap2, rfl, q1, q2, q3h, c0, hx⟩; have c1 := c1f.out _ _ _ q3h.out)
            go_loopw [8, 9] (fun v i wr => ∃ j : Nat, j ≤ k ∧ v = .int .i64 (I j) ∧ i = .int .i64 ((j : Int) + 1) ∧ wr = w1) (fun _ i _ => k + 1 - (intOf i).toNat)
            case atStart => exact ⟨0, Nat.zero_le _, by rw [hz0.out, hzv], rfl, rfl⟩
            case round =>
              obtain ⟨j, hj, rfl, rfl, rfl⟩ := hrel
              by_cases hlt : j < k
              · obtain ⟨q, hq, hqi, hqc⟩ := hin.out j hlt
                have hc := hqc wr g o q3h.out
                have hb := hbd.out j hj
                have hp : (256 : Int) ^ j ≤ 256 ^ 6 := by
                  have : (256 : Nat) ^ j ≤ 256 ^ 6 := Nat.pow_le_pow_right (by decide) (by omega)
                  exact_mod_cast this
                have hb1 : -9223372036854775808 ≤ 256 * I j := by omega
                have hb2 : 256 * I j + 255 < 9223372036854775808 := by omega
                have hqh : Hid (I (j + 1) = 256 * I j + (q : Int)) := hqi
                have hjt : ((j : Int) + 1).toNat = j + 1 := by omega
                clear hqc hb hp hqi c0 c1
                go_wp2
                go_roundw
                case rel => exact ⟨j + 1, by omega, by rw [hqh.out], by go_num, by first | rfl | trivial⟩
                case measure => simp [intOf]; omega
              · have hjk : j = k := by omega
                subst hjk
                go_wp2
                go_ret2
                rw [hV.out, hE2.out, hP.out]
                exact ⟨ret_ii (by rw [hzk.out]; rfl) rfl, ((Ext.refl w).alloc _).trans hx⟩
          · by_cases hx1 : xn < 128
            · have hzv : z = (xn : Int) := by rw [hzx.out, if_pos hx1]
              have hx3 : ((xn : Int) == 0) = false := by simp; omega
              have hx4 : ((xn : Int) == 255) = false := by simp; omega
              have hx2 : decide ((128 : Int) ≤ (xn : Int)) = false := by simp; omega
              have hx6 : decide (128 ≤ xn) = false := by simp; omega
              have hP : Hid (padB (x :: r) = false) := by
                show _ = _; rw [hph.out, Bool.or_eq_false_iff, Bool.and_eq_false_iff, Bool.and_eq_false_iff]; simp; omega
              clear hph
              go_enter Try.func21, Try.ntmps21
              go_wp2_with (go_at_call 46; refine (hbo2 _).mono ?_; rintro _ w1 ⟨g, o, cap2, rfl, q1, q2, q3h, c0, hx⟩; have c1 := c1f.out _ _ _ q3h.out)
              go_loopw [8, 9] (fun v i wr => ∃ j : Nat, j ≤ k ∧ v = .int .i64 (I j) ∧ i = .int .i64 ((j : Int) + 1) ∧ wr = w1) (fun _ i _ => k + 1 - (intOf i).toNat)
              case atStart => exact ⟨0, Nat.zero_le _, by rw [hz0.out, hzv], rfl, rfl⟩
              case round =>
                obtain ⟨j, hj, rfl, rfl, rfl⟩ := hrel
                by_cases hlt : j < k
                · obtain ⟨q, hq, hqi, hqc⟩ := hin.out j hlt
                  have hc := hqc wr g o q3h.out
                  have hb := hbd.out j hj
                  have hp : (256 : Int) ^ j ≤ 256 ^ 6 := by
                    have : (256 : Nat) ^ j ≤ 256 ^ 6 := Nat.pow_le_pow_right (by decide) (by omega)
                    exact_mod_cast this
                  have hb1 : -9223372036854775808 ≤ 256 * I j := by omega
                  have hb2 : 256 * I j + 255 < 9223372036854775808 := by omega
                  have hqh : Hid (I (j + 1) = 256 * I j + (q : Int)) := hqi
                  have hjt : ((j : Int) + 1).toNat = j + 1 := by omega
                  clear hqc hb hp hqi c0 c1
                  go_wp2
                  go_roundw
                  case rel => exact ⟨j + 1, by omega, by rw [hqh.out], by go_num, by first | rfl | trivial⟩
                  case measure => simp [intOf]; omega
                · have hjk : j = k := by omega
                  subst hjk
                  go_wp2
                  go_ret2
                  rw [hV.out, hE2.out, hP.out]
                  exact ⟨ret_ii (by rw [hzk.out]; rfl) rfl, ((Ext.refl w).alloc _).trans hx⟩
            · have hzv : z = (xn : Int) - 256 := by rw [hzx.out, if_neg hx1]
              have hx3 : ((xn : Int) == 0) = false := by simp; omega
              have hx4 : ((xn : Int) == 255) = false := by simp; omega
              have hx2 : (128 : Int) ≤ (xn : Int) := by omega
              have hP : Hid (padB (x :: r) = false) := by
                show _ = _; rw [hph.out, Bool.or_eq_false_iff, Bool.and_eq_false_iff, Bool.and_eq_false_iff]; simp; omega
              clear hph
              go_enter Try.func21, Try.ntmps21
              go_wp2_with (go_at_call 46; refine (hbo2 _).mono ?_; rintro _ w1 ⟨g, o, cap2, rfl, q1, q2, q3h, c0, hx⟩; have c1 := c1f.out _ _ _ q3h.out)
              go_loopw [8, 9] (fun v i wr => ∃ j : Nat, j ≤ k ∧ v = .int .i64 (I j) ∧ i = .int .i64 ((j : Int) + 1) ∧ wr = w1) (fun _ i _ => k + 1 - (intOf i).toNat)
              case atStart => exact ⟨0, Nat.zero_le _, by rw [hz0.out, hzv], rfl, rfl⟩
              case round =>
                obtain ⟨j, hj, rfl, rfl, rfl⟩ := hrel
                by_cases hlt : j < k
                · obtain ⟨q, hq, hqi, hqc⟩ := hin.out j hlt
                  have hc := hqc wr g o q3h.out
                  have hb := hbd.out j hj
                  have hp : (256 : Int) ^ j ≤ 256 ^ 6 := by
                    have : (256 : Nat) ^ j ≤ 256 ^ 6 := Nat.pow_le_pow_right (by decide) (by omega)
                    exact_mod_cast this
                  have hb1 : -9223372036854775808 ≤ 256 * I j := by omega
                  have hb2 : 256 * I j + 255 < 9223372036854775808 := by omega
                  have hqh : Hid (I (j + 1) = 256 * I j + (q : Int)) := hqi
                  have hjt : ((j : Int) + 1).toNat = j + 1 := by omega
                  clear hqc hb hp hqi c0 c1
                  go_wp2
                  go_roundw
                  case rel => exact ⟨j + 1, by omega, by rw [hqh.out], by go_num, by first | rfl | trivial⟩
                  case measure => simp [intOf]; omega
                · have hjk : j = k := by omega
                  subst hjk
                  go_wp2
                  go_ret2
                  rw [hV.out, hE2.out, hP.out]
                  exact ⟨ret_ii (by rw [hzk.out]; rfl) rfl, ((Ext.refl w).alloc _).trans hx⟩
  · have hE1 : ((E : Int) == 0) = false := by simp; omega
    go_enter Try.func21, Try.ntmps21
    go_wp2_with (go_at_call 46; refine (hbo _).mono ?_; rintro _ w1 ⟨u, rfl, ⟨a2, cap2, rfl, q1, q2, q3⟩, hx⟩; clear q3 q1)
    go_ret2
    rw [hV.out, hE.out, if_pos hE0, if_neg hE0]
    exact ⟨rfl, ((Ext.refl w).alloc _).trans hx⟩
end Go.Proofs.Ytjannndndbohaaa
