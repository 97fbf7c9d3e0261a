/-
 The document's own body, Text, Flag and Int answer as the program's.
-/
import Derived.Test.YthjgfpkmfmoheaaGreatDoorBval
import Derived.Test.YthjgfpkmfmoheaaGreatDoorBint
import Derived.BigQuiet
import Derived.Deep.QuietTactic
namespace Go.Proofs.YthjgfpkmfmoheaaGreatDoor
open Go.RowKit Go.Shelf

set_option maxRecDepth 100000 in
set_option maxHeartbeats 2000000 in
theorem rbody_any (w : World) (v : Value) (l : List UInt8) (c : Int) (b : Bool) (n f t : Int) (hs : Sl w v l) :
   Calls Tryz.prog 115 #[v, iv c b n f t] w fun x w' => ∃ u, x = .returned (.tuple #[u, .int .i64 (bodyE l b f t)]) ∧ Sl w u (bodyB l b f t) ∧ Ext w w' := by
 unfold iv
 by_cases hw : withinB f t l.length = true
 · have hw' := of_decide_eq_true hw
   obtain ⟨i, rfl⟩ := Int.eq_ofNat_of_zero_le hw'.1
   obtain ⟨j, rfl⟩ := Int.eq_ofNat_of_zero_le (show 0 ≤ t by omega)
   have hE : Hid (bodyE l b i j = if b then 20 else 0) := by show _ = _; unfold bodyE; rw [if_neg (by simp [hw])]
   have hB : Hid (bodyB l b i j = if bodyE l b i j = 0 then cutB l i j else []) := rfl
   have hsub : Hid (∀ a cap, v = .slice a l.length cap → Sl w (sliced a i j cap 1) (cutB l i j)) := fun a cap e => by
     subst e; exact hs.sub i j (by omega) (by omega)
   obtain ⟨a, cap, rfl, h1, h2, h3⟩ := hs
   have hw1 : i ≤ j := by omega
   have hw2 : j ≤ l.length := by omega
   obtain ⟨k, hk⟩ : ∃ k, l.length = k := ⟨_, rfl⟩
   have hsub2 := hsub.out a cap rfl
   rw [hk] at h1 hw2 ⊢
   have hsubh : Hid (Sl w (sliced a i j cap 1) (cutB l i j)) := hsub2
   clear hsub hsub2 h3 hk hw' hw
   cases b
   · go_enter Tryz.func115, Tryz.ntmps115
     go_wp2
     all_goals
       go_ret2
       rw [hB.out, hE.out]
       refine ⟨_, rfl, ?_, (Ext.refl w).alloc _⟩
       have hq := hsubh.out
       simp only [sliced] at hq
       simpa [*] using hq
   · go_enter Tryz.func115, Tryz.ntmps115
     go_wp2
     go_ret2
     rw [hB.out, hE.out]
     exact ⟨_, rfl, sl_nil rfl (by decide), (Ext.refl w).alloc _⟩
 · have hw1 : withinB f t l.length = false := by simpa using hw
   have hE : Hid (bodyE l b f t = 2) := by show _ = _; unfold bodyE; rw [if_pos hw1]
   have hB : Hid (bodyB l b f t = if bodyE l b f t = 0 then cutB l f.toNat t.toNat else []) := rfl
   obtain ⟨a, cap, rfl, h1, h2, h3⟩ := hs
   have hno : f < 0 ∨ t < f ∨ (l.length : Int) < t := by
     have := of_decide_eq_false hw1
     omega
   clear hw hw1 h3
   obtain ⟨k, hk⟩ : ∃ k, l.length = k := ⟨_, rfl⟩
   rw [hk] at hno h1 ⊢
   by_cases n1 : f < 0
   · go_enter Tryz.func115, Tryz.ntmps115
     go_wp2
     go_ret2
     rw [hB.out, hE.out]
     exact ⟨_, rfl, sl_nil rfl (by decide), (Ext.refl w).alloc _⟩
   · by_cases n2 : t < f
     · go_enter Tryz.func115, Tryz.ntmps115
       go_wp2
       go_ret2
       rw [hB.out, hE.out]
       exact ⟨_, rfl, sl_nil rfl (by decide), (Ext.refl w).alloc _⟩
     · have n3 : (k : Int) < t := by omega
       clear hno
       go_enter Tryz.func115, Tryz.ntmps115
       go_wp2
       go_ret2
       rw [hB.out, hE.out]
       exact ⟨_, rfl, sl_nil rfl (by decide), (Ext.refl w).alloc _⟩

set_option maxRecDepth 100000 in
set_option maxHeartbeats 4000000 in
theorem rFlag_any (w : World) (v : Value) (l : List UInt8) (c : Int) (b : Bool) (n f t : Int) (hs : Sl w v l) :
   Calls Tryz.prog 86 #[v, iv c b n f t] w fun x w' => x = .returned (.tuple #[.bool (flagV l b f t), .int .i64 (flagE l b f t)]) ∧ Ext w w' := by
 have hbo : ∀ ob : Obj, Calls Tryz.prog 115 #[v, iv c b n f t] (w.alloc ob) fun x w' => ∃ u, x = .returned (.tuple #[u, .int .i64 (bodyE l b f t)]) ∧ Sl (w.alloc ob) u (bodyB l b f t) ∧ Ext (w.alloc ob) w' :=
   fun ob => rbody_any _ v l c b n f t (hs.ext ((Ext.refl w).alloc ob))
 have hF : Hid (flagE l b f t = if bodyE l b f t ≠ 0 then bodyE l b f t else if bodyB l b f t = [255] ∨ bodyB l b f t = [0] then 0 else 22) := rfl
 have hV : Hid (flagV l b f t = (bodyB l b f t == [255])) := rfl
 have hB : Hid (bodyE l b f t ≠ 0 → bodyB l b f t = []) := fun h => if_neg h
 clear hs
 unfold iv at hbo ⊢
 obtain ⟨E, hEe⟩ : ∃ E, bodyE l b f t = E := ⟨_, rfl⟩
 obtain ⟨B, hBe⟩ : ∃ B, bodyB l b f t = B := ⟨_, rfl⟩
 rw [hEe, hBe] at hB hF; rw [hBe] at hV; simp only [hEe, hBe] at hbo ⊢
 clear hEe hBe
 by_cases hE0 : E = 0
 · subst hE0
   match B with
   | [] =>
     go_enter Tryz.func86, Tryz.ntmps86
     go_wp2_with (go_at_call 115; refine (hbo _).mono ?_; rintro _ w1 ⟨u, rfl, ⟨a2, cap2, rfl, q1, q2, q3⟩, hx⟩; clear q3 q1; dsimp only [List.length_nil])
     go_ret2
     rw [hV.out, hF.out]
     exact ⟨rfl, ((Ext.refl w).alloc _).trans hx⟩
   | x :: y :: r =>
     have hF2 : Hid (flagE l b f t = 22) := by show _ = _; rw [hF.out, if_neg (by simp), if_neg (by simp)]
     have hV2 : Hid (flagV l b f t = false) := by show _ = _; rw [hV.out]; simp
     obtain ⟨k, hk⟩ : ∃ k, r.length = k := ⟨_, rfl⟩
     have hk1 : (((k : Int) + 1 + 1) != 1) = true := by simp; omega
     go_enter Tryz.func86, Tryz.ntmps86
     go_wp2_with (go_at_call 115; refine (hbo _).mono ?_; rintro _ w1 ⟨u, rfl, ⟨a2, cap2, rfl, q1, q2, q3⟩, hx⟩; clear q3 q1; rw [List.length_cons, List.length_cons, hk])
     go_ret2
     rw [hV2.out, hF2.out]
     exact ⟨rfl, ((Ext.refl w).alloc _).trans hx⟩
   | [x] =>
     have hx0 : Hid (∀ y : UInt8, ([x] = [y] ↔ x.toNat = y.toNat)) := fun y => by
       constructor
       · intro h; cases h; rfl
       · intro h; rw [UInt8.toNat_inj.1 h]
     obtain ⟨z, hz⟩ : ∃ z : Nat, x.toNat = z := ⟨_, rfl⟩
     have hF2 : Hid (flagE l b f t = if z = 255 ∨ z = 0 then 0 else 22) := by
       show _ = _
       rw [hF.out, if_neg (by simp)]
       have e1 := hx0.out 255
       have e2 := hx0.out 0
       rw [hz] at e1 e2
       simp only [e1, e2]
       rfl
     have hV2 : Hid (flagV l b f t = decide (z = 255)) := by
       show _ = _
       rw [hV.out, Bool.eq_iff_iff, beq_iff_eq, decide_eq_true_iff, hx0.out 255, hz]
       rfl
     have hz256 : z < 256 := by rw [← hz]; exact x.toNat_lt
     clear hF hV hB hx0
     by_cases z1 : z = 255
     · subst z1
       go_enter Tryz.func86, Tryz.ntmps86
       go_wp2_with (go_at_call 115; refine (hbo _).mono ?_; rintro _ w1 ⟨u, rfl, hu, hx⟩; rcases (hu.ext hx).cases with ⟨_, _, hnil, _, _⟩ | ⟨g, o, cap2, hpos, rfl, q1, q2, q3⟩; · cases hnil
                    have c0 := q3 0 (by simp); simp only [B8, List.getElem_cons_zero, Nat.add_zero, hz] at c0; clear q3 hu hpos; dsimp only [List.length_cons, List.length_nil] at q1 ⊢)
       go_ret2
       rw [hV2.out, hF2.out]
       exact ⟨rfl, ((Ext.refl w).alloc _).trans hx⟩
     · by_cases z0 : z = 0
       · subst z0
         go_enter Tryz.func86, Tryz.ntmps86
         go_wp2_with (go_at_call 115; refine (hbo _).mono ?_; rintro _ w1 ⟨u, rfl, hu, hx⟩; rcases (hu.ext hx).cases with ⟨_, _, hnil, _, _⟩ | ⟨g, o, cap2, hpos, rfl, q1, q2, q3⟩; · cases hnil
                      have c0 := q3 0 (by simp); simp only [B8, List.getElem_cons_zero, Nat.add_zero, hz] at c0; clear q3 hu hpos; dsimp only [List.length_cons, List.length_nil] at q1 ⊢)
         go_ret2
         rw [hV2.out, hF2.out]
         exact ⟨rfl, ((Ext.refl w).alloc _).trans hx⟩
       · have b1 : ((z : Int) != 255) = true := by simp; omega
         have b0 : ((z : Int) != 0) = true := by simp; omega
         go_enter Tryz.func86, Tryz.ntmps86
         go_wp2_with (go_at_call 115; refine (hbo _).mono ?_; rintro _ w1 ⟨u, rfl, hu, hx⟩; rcases (hu.ext hx).cases with ⟨_, _, hnil, _, _⟩ | ⟨g, o, cap2, hpos, rfl, q1, q2, q3⟩; · cases hnil
                      have c0 := q3 0 (by simp); simp only [B8, List.getElem_cons_zero, Nat.add_zero, hz] at c0; clear q3 hu hpos; dsimp only [List.length_cons, List.length_nil] at q1 ⊢)
         go_ret2
         rw [hV2.out, hF2.out, if_neg (by omega), decide_eq_false z1]
         exact ⟨rfl, ((Ext.refl w).alloc _).trans hx⟩
 · have hE1 : ((E : Int) == 0) = false := by simp; omega
   go_enter Tryz.func86, Tryz.ntmps86
   go_wp2_with (go_at_call 115; refine (hbo _).mono ?_; rintro _ w1 ⟨u, rfl, hu, hx⟩; clear hu)
   go_ret2
   rw [hV.out, hF.out, if_pos hE0, hB.out hE0]
   exact ⟨rfl, ((Ext.refl w).alloc _).trans hx⟩
end Go.Proofs.YthjgfpkmfmoheaaGreatDoor
