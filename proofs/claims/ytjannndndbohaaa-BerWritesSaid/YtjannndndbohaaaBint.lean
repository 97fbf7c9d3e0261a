/-
  The contracts of Int, Flag and Text.
-/
import Derived.Test.YtjannndndbohaaaBval
namespace Go.Proofs.Ytjannndndbohaaa
open Go.RowKit

theorem ret_ii {a b x y : Int} (h1 : a = x) (h2 : b = y) : Ending.returned (.tuple #[.int .i64 a, .int .i64 b]) = .returned (.tuple #[.int .i64 x, .int .i64 y]) := by rw [h1, h2]
theorem ret_bi {a x : Bool} {b y : Int} (h1 : a = x) (h2 : b = y) : Ending.returned (.tuple #[.bool a, .int .i64 b]) = .returned (.tuple #[.bool x, .int .i64 y]) := by rw [h1, h2]
theorem ret_si {a x : ByteArray} {b y : Int} (h1 : a = x) (h2 : b = y) : Ending.returned (.tuple #[.string a, .int .i64 b]) = .returned (.tuple #[.string x, .int .i64 y]) := by rw [h1, h2]

theorem wrap_i8 (a : Nat) (h : a < 256) : IntKind.i8.wrap (a : Int) = s8 a := by
  have e : IntKind.i8.wrap (a : Int) = if 128 ≤ (a : Int) % 256 then (a : Int) % 256 - 256 else (a : Int) % 256 := by simp [IntKind.wrap, IntKind.bits, IntKind.signed]
  rw [e]; unfold s8; split <;> split <;> omega

set_option maxRecDepth 100000 in
set_option maxHeartbeats 4000000 in
theorem Int_any (w : World) (v : Value) (l : List UInt8) (c : Int) (b : Bool) (n f t : Int) (hs : Sl w v l) :
    Calls Try.prog 20 #[v, iv c b n f t] w fun x w' => x = .returned (.tuple #[.int .i64 (intV l b f t), .int .i64 (intE l b f t)]) ∧ Ext w w' := by
  have hbo : ∀ ob : Obj, Calls Try.prog 44 #[v, iv c b n f t] (w.alloc ob) fun x w' => ∃ u, x = .returned (.tuple #[u, .int .i64 (bodyE l b f t)]) ∧ Sl (w.alloc ob) u (bodyB l b f t) ∧ Ext (w.alloc ob) w' :=
    fun ob => bodyOf_any _ v l c b n f t (hs.ext ((Ext.refl w).alloc ob))
  have hE : Hid (intE l b f t = if bodyE l b f t ≠ 0 then bodyE l b f t
    else if (bodyB l b f t).length = 0 ∨ 8 < (bodyB l b f t).length ∨ padB (bodyB l b f t) = true then 23 else 0) := rfl
  have hV : Hid (intV l b f t = if intE l b f t = 0 then intL (bodyB l b f t) else 0) := rfl
  clear hs
  unfold iv at hbo ⊢
  obtain ⟨E, hEe⟩ : ∃ E, bodyE l b f t = E := ⟨_, rfl⟩
  obtain ⟨B, hBe⟩ : ∃ B, bodyB l b f t = B := ⟨_, rfl⟩
  rw [hEe] at hE; rw [hBe] at hE hV; simp only [hEe, hBe] at hbo
  clear hEe hBe
  by_cases hE0 : E = 0
  · subst hE0
    match B with
    | [] =>
      go_enter Try.func20, Try.ntmps20
      go_wp2_with (go_at_call 44; refine (hbo _).mono ?_; rintro _ w1 ⟨u, rfl, ⟨a2, cap2, rfl, q1, q2, q3⟩, hx⟩; clear q3 q1; dsimp only [List.length_nil])
      go_ret2
      rw [hV.out, hE.out]
      exact ⟨rfl, ((Ext.refl w).alloc _).trans hx⟩
    | x :: r =>
      by_cases h8 : 8 < (x :: r).length
      · obtain ⟨k, hk⟩ : ∃ k, (x :: r).length = k := ⟨_, rfl⟩
        simp only [hk] at hE h8
        have hE2 : Hid (intE l b f t = 23) := by show _ = _; rw [hE.out, if_neg (by simp), if_pos (by right; left; exact h8)]
        go_enter Try.func20, Try.ntmps20
        go_wp2_with (go_at_call 44; refine (hbo _).mono ?_; rintro _ w1 ⟨u, rfl, ⟨a2, cap2, rfl, q1, q2, q3⟩, hx⟩; clear q3; rw [hk] at q1 ⊢)
        go_ret2
        rw [hV.out, hE2.out]
        exact ⟨rfl, ((Ext.refl w).alloc _).trans hx⟩
      · by_cases hP : padB (x :: r) = true
        · simp only [hP, or_true, if_true] at hE
          have h8' : Hid (r.length + 1 ≤ 8) := by show _ ≤ _; simpa using h8
          clear h8
          obtain ⟨k, hk⟩ : ∃ k, r.length = k := ⟨_, rfl⟩
          have hk1 : k + 1 ≤ 8 := by rw [← hk]; exact h8'.out
          go_enter Try.func20, Try.ntmps20
          go_wp2_with (first
            | (go_at_call 44; refine (hbo _).mono ?_; rintro _ w1 ⟨u, rfl, hu, hx⟩; have hu1 : Hid (Sl w1 u (x :: r)) := hu.ext hx; obtain ⟨a2, cap2, rfl, q1, q2, q3⟩ := hu; clear q3; rw [List.length_cons, hk] at q1 hu1 ⊢)
            | (go_at_call 45; refine (padded_any _ _ _ hu1.out).mono ?_; rintro _ w2 ⟨rfl, rfl⟩; rw [hP]))
          go_ret2
          rw [hV.out, hE.out]
          exact ⟨rfl, ((Ext.refl w).alloc _).trans hx⟩
        · have hP0 : padB (x :: r) = false := by simpa using hP
          have h8' : Hid (r.length + 1 ≤ 8) := by show _ ≤ _; simpa using h8
          rw [if_neg (by simp), if_neg (by simp [hP0]; simpa using h8)] at hE
          clear h8 hP
          obtain ⟨k, hk⟩ : ∃ k, r.length = k := ⟨_, rfl⟩
          have hk1 : k + 1 ≤ 8 := by rw [← hk]; exact h8'.out
          have hxw := wrap_i8 x.toNat x.toNat_lt
          have hx256 : x.toNat < 256 := x.toNat_lt
          have hkh : Hid (r.length = k) := hk
          have hk0 : ((k : Int) + 1 == 0) = false := by simp; omega
          have hk8 : decide ((8 : Int) < (k : Int) + 1) = false := by simp; omega
          have hin : Hid (∀ j, j < k → ∃ y : Nat, y < 256 ∧ intL (x :: r.take (j + 1)) = 256 * intL (x :: r.take j) + (y : Int) ∧ ∀ (w1 : World) (g o : Nat), (∀ j (h : j < (x :: r).length), w1.cell? ⟨g, o + j, none⟩ = some (B8 (x :: r)[j])) → w1.cell? ⟨g, o + 1 + j, none⟩ = some (.int .u8 y)) := fun j hj => by
            have hjr : j < r.length := by rw [hkh.out]; exact hj
            refine ⟨r[j].toNat, r[j].toNat_lt, intL_take x r j hjr, fun w1 g o h => ?_⟩
            have := h (j + 1) (by simp; omega)
            rw [show o + 1 + j = o + (j + 1) by omega, this]
            rfl
          have hbd : Hid (∀ j, j ≤ k → -(128 * 256 ^ j : Int) ≤ intL (x :: r.take j) ∧ intL (x :: r.take j) < 128 * 256 ^ j) := fun j hj => intL_bound x r j (by rw [hkh.out]; exact hj)
          obtain ⟨z, hz⟩ : ∃ z, s8 x.toNat = z := ⟨_, rfl⟩
          have hz1 : -128 ≤ z ∧ z < 128 := by rw [← hz]; unfold s8; split <;> omega
          have hz0 : Hid (intL (x :: r.take 0) = z) := by show _ = _; rw [← hz]; rfl
          have hzk : Hid (intL (x :: r.take k) = intL (x :: r)) := by show _ = _; rw [List.take_of_length_le (by rw [hkh.out]; exact Nat.le_refl _)]
          rw [hz] at hxw
          obtain ⟨xn, hxn⟩ : ∃ xn : Nat, x.toNat = xn := ⟨_, rfl⟩
          rw [hxn] at hxw hx256
          obtain ⟨I, hI⟩ : ∃ I : Nat → Int, (fun j => intL (x :: r.take j)) = I := ⟨_, rfl⟩
          have hIj : ∀ j, intL (x :: r.take j) = I j := fun j => congrFun hI j
          simp only [hIj] at hin hbd hz0 hzk
          clear hIj hI hz
          go_enter Try.func20, Try.ntmps20
          go_wp2_with (first
            | (go_at_call 44; refine (hbo _).mono ?_; rintro _ w1 ⟨u, rfl, hu, hx⟩; have hu1 : Hid (Sl w1 u (x :: r)) := hu.ext hx; rcases (hu.ext hx).cases with ⟨_, _, hnil, _, _⟩ | ⟨g, o, cap2, hpos, rfl, q1, q2, q3⟩; · cases hnil
               have c0 := q3 0 (by simp); simp only [B8, List.getElem_cons_zero, Nat.add_zero, hxn] at c0; have q3h : Hid (∀ j (h : j < (x :: r).length), w1.cell? ⟨g, o + j, none⟩ = some (B8 (x :: r)[j])) := q3; clear q3 hu hpos; rw [List.length_cons, hk] at q1 hu1 ⊢)
            | (go_at_call 45; refine (padded_any _ _ _ hu1.out).mono ?_; rintro _ w2 ⟨rfl, rfl⟩; rw [hP0]))
          · have hk00 : k = 0 := by omega
            subst hk00
            go_loopw [8, 10, 40] (fun v _ i wr => v = .int .i64 z ∧ i = .int .i64 0 ∧ wr = w2) (fun _ _ _ _ => 0)
            case atStart => exact ⟨rfl, rfl, rfl⟩
            case round =>
              obtain ⟨rfl, rfl, rfl⟩ := hrel
              go_wp2
              go_ret2
              rw [hV.out, hE.out]
              exact ⟨ret_ii (by rw [← hz0.out, hzk.out]; rfl) rfl, ((Ext.refl w).alloc _).trans hx⟩
          · go_loopw [8, 10, 40] (fun v _ i wr => ∃ j : Nat, j ≤ k ∧ v = .int .i64 (I j) ∧ i = .int .i64 j ∧ wr = w2) (fun _ _ i _ => k - (intOf i).toNat)
            case atStart => exact ⟨0, Nat.zero_le _, by rw [hz0.out], rfl, rfl⟩
            case round =>
              obtain ⟨j, hj, rfl, rfl, rfl⟩ := hrel
              by_cases hlt : j < k
              · obtain ⟨y, hy, hyi, hyc⟩ := hin.out j hlt
                have hc := hyc wr g o q3h.out
                have hb := hbd.out j hj
                have hp : (256 : Int) ^ j ≤ 256 ^ 6 := by
                  have : (256 : Nat) ^ j ≤ 256 ^ 6 := Nat.pow_le_pow_right (by decide) (by omega)
                  exact_mod_cast this
                have hb1 : -9223372036854775808 ≤ I j * 256 := by omega
                have hb2 : I j * 256 < 9223372036854775808 := by omega
                have hor := or8i (I j) y (by omega) (by omega) hb1 hb2
                have hyh : Hid (I (j + 1) = 256 * I j + (y : Int)) := hyi
                clear hyc hb hp hyi
                go_wp2
                go_roundw
                case rel => exact ⟨j + 1, by omega, by rw [hyh.out], by go_num, by first | rfl | trivial⟩
                case measure => simp [intOf]; omega
              · have hjk : j = k := by omega
                subst hjk
                go_wp2
                go_ret2
                rw [hV.out, hE.out]
                exact ⟨ret_ii (by rw [hzk.out]; rfl) rfl, ((Ext.refl w).alloc _).trans hx⟩
  · have hE1 : ((E : Int) == 0) = false := by simp; omega
    go_enter Try.func20, Try.ntmps20
    go_wp2_with (go_at_call 44; refine (hbo _).mono ?_; rintro _ w1 ⟨u, rfl, ⟨a2, cap2, rfl, q1, q2, q3⟩, hx⟩; clear q3 q1)
    go_ret2
    rw [hV.out, hE.out, if_pos hE0, if_neg hE0]
    exact ⟨rfl, ((Ext.refl w).alloc _).trans hx⟩

def flagE (l : List UInt8) (b : Bool) (f t : Int) : Nat :=
  if bodyE l b f t ≠ 0 then bodyE l b f t else if bodyB l b f t = [255] ∨ bodyB l b f t = [0] then 0 else 22
def flagV (l : List UInt8) (b : Bool) (f t : Int) : Bool := bodyB l b f t == [255]
def textV (l : List UInt8) (b : Bool) (f t : Int) : List UInt8 := bodyB l b f t

theorem Sl.conv {w w' : World} {v : Value} {l : List UInt8} (h : Sl w v l) (k : Ext w w') : (convert 22 9 v).run Try.prog w' = .ok (.string (str l)) w' := by
  rcases (h.ext k).cases with ⟨a, cap, rfl, rfl, _⟩ | ⟨g, o, cap, hpos, rfl, hcap, hmax, hc⟩
  · match a with
    | none => exact run_convert_bytes_nil w' 22 5 Try.underlying22 Try.underlying5 0 cap 9 Try.underlying9
    | some ad => exact run_convert_bytes_back w' 22 9 5 ad cap [] Try.underlying22 Try.underlying5 Try.underlying9 (fun j hj => by simp at hj)
  · exact run_convert_bytes_back w' 22 9 5 ⟨g, o, none⟩ cap l Try.underlying22 Try.underlying5 Try.underlying9
      (fun j hj => by rw [Addr.add_lit]; exact hc j hj)

set_option maxRecDepth 100000 in
set_option maxHeartbeats 4000000 in
theorem Text_any (w : World) (v : Value) (l : List UInt8) (c : Int) (b : Bool) (n f t : Int) (hs : Sl w v l) :
    Calls Try.prog 24 #[v, iv c b n f t] w fun x w' => x = .returned (.tuple #[.string (str (textV l b f t)), .int .i64 (bodyE l b f t)]) ∧ Ext w w' := by
  have hbo : ∀ ob : Obj, Calls Try.prog 44 #[v, iv c b n f t] (w.alloc ob) fun x w' => ∃ u, x = .returned (.tuple #[u, .int .i64 (bodyE l b f t)]) ∧ Sl (w.alloc ob) u (bodyB l b f t) ∧ Ext (w.alloc ob) w' :=
    fun ob => bodyOf_any _ v l c b n f t (hs.ext ((Ext.refl w).alloc ob))
  have hV : Hid (textV l b f t = bodyB l b f t) := rfl
  have hB : Hid (bodyE l b f t ≠ 0 → bodyB l b f t = []) := fun h => if_neg h
  clear hs
  unfold iv at hbo ⊢
  obtain ⟨E, hEe⟩ : ∃ E, bodyE l b f t = E := ⟨_, rfl⟩
  obtain ⟨B, hBe⟩ : ∃ B, bodyB l b f t = B := ⟨_, rfl⟩
  rw [hEe, hBe] at hB; rw [hBe] at hV; simp only [hEe, hBe] at hbo ⊢
  clear hEe hBe
  by_cases hE0 : E = 0
  · subst hE0
    go_enter Try.func24, Try.ntmps24
    go_wp2_with (go_at_call 44; refine (hbo _).mono ?_; rintro _ w1 ⟨u, rfl, hu, hx⟩; have hcv := hu.conv hx)
    go_ret2
    exact ⟨ret_si (by rw [hV.out]) rfl, ((Ext.refl w).alloc _).trans hx⟩
  · have hE1 : ((E : Int) == 0) = false := by simp; omega
    go_enter Try.func24, Try.ntmps24
    go_wp2_with (go_at_call 44; refine (hbo _).mono ?_; rintro _ w1 ⟨u, rfl, hu, hx⟩; clear hu)
    go_ret2
    exact ⟨ret_si (by rw [hV.out, hB.out hE0]; rfl) rfl, ((Ext.refl w).alloc _).trans hx⟩

set_option maxRecDepth 100000 in
set_option maxHeartbeats 4000000 in
theorem Flag_any (w : World) (v : Value) (l : List UInt8) (c : Int) (b : Bool) (n f t : Int) (hs : Sl w v l) :
    Calls Try.prog 22 #[v, iv c b n f t] w fun x w' => x = .returned (.tuple #[.bool (flagV l b f t), .int .i64 (flagE l b f t)]) ∧ Ext w w' := by
  have hbo : ∀ ob : Obj, Calls Try.prog 44 #[v, iv c b n f t] (w.alloc ob) fun x w' => ∃ u, x = .returned (.tuple #[u, .int .i64 (bodyE l b f t)]) ∧ Sl (w.alloc ob) u (bodyB l b f t) ∧ Ext (w.alloc ob) w' :=
    fun ob => bodyOf_any _ v l c b n f t (hs.ext ((Ext.refl w).alloc ob))
  have hF : Hid (flagE l b f t = if bodyE l b f t ≠ 0 then bodyE l b f t else if bodyB l b f t = [255] ∨ bodyB l b f t = [0] then 0 else 22) := rfl
  have hV : Hid (flagV l b f t = (bodyB l b f t == [255])) := rfl
  have hB : Hid (bodyE l b f t ≠ 0 → bodyB l b f t = []) := fun h => if_neg h
  clear hs
  unfold iv at hbo ⊢
  obtain ⟨E, hEe⟩ : ∃ E, bodyE l b f t = E := ⟨_, rfl⟩
  obtain ⟨B, hBe⟩ : ∃ B, bodyB l b f t = B := ⟨_, rfl⟩
  rw [hEe, hBe] at hB hF; rw [hBe] at hV; simp only [hEe, hBe] at hbo ⊢
  clear hEe hBe
  by_cases hE0 : E = 0
  · subst hE0
    by_cases h1 : B = [255]
    · subst h1
      go_enter Try.func22, Try.ntmps22
      go_wp2_with (go_at_call 44; refine (hbo _).mono ?_; rintro _ w1 ⟨u, rfl, hu, hx⟩; have hcv := hu.conv hx; have hst : str [255] = ⟨#[255]⟩ := rfl)
      go_ret2
      rw [hV.out, hF.out]
      exact ⟨rfl, ((Ext.refl w).alloc _).trans hx⟩
    · by_cases h2 : B = [0]
      · subst h2
        have hst2 : (str [0] == (⟨#[255]⟩ : ByteArray)) = false := by decide
        go_enter Try.func22, Try.ntmps22
        go_wp2_with (go_at_call 44; refine (hbo _).mono ?_; rintro _ w1 ⟨u, rfl, hu, hx⟩; have hcv := hu.conv hx; have hst : str [0] = ⟨#[0]⟩ := rfl)
        go_ret2
        rw [hV.out, hF.out]
        exact ⟨rfl, ((Ext.refl w).alloc _).trans hx⟩
      · have hsl : (str B).toList = B := by rw [ByteArray.toList_eq]; rfl
        have e1 : (B == [255]) = false := by simpa using h1
        have e2 : (B == [0]) = false := by simpa using h2
        have h12 : Hid (¬ (B = [255] ∨ B = [0])) := by show ¬ _; rintro (h | h) <;> contradiction
        have h1h : Hid ((B == [255]) = false) := by show _ = _; simpa using h1
        clear h1 h2
        go_enter Try.func22, Try.ntmps22
        go_wp2_with (go_at_call 44; refine (hbo _).mono ?_; rintro _ w1 ⟨u, rfl, hu, hx⟩; have hcv := hu.conv hx)
        go_ret2
        rw [hV.out, hF.out, if_neg (by simp), if_neg h12.out, h1h.out]
        exact ⟨rfl, ((Ext.refl w).alloc _).trans hx⟩
  · have hE1 : ((E : Int) == 0) = false := by simp; omega
    go_enter Try.func22, Try.ntmps22
    go_wp2_with (go_at_call 44; refine (hbo _).mono ?_; rintro _ w1 ⟨u, rfl, hu, hx⟩; clear hu)
    go_ret2
    rw [hV.out, hF.out, if_pos hE0, hB.out hE0]
    exact ⟨rfl, ((Ext.refl w).alloc _).trans hx⟩
end Go.Proofs.Ytjannndndbohaaa
