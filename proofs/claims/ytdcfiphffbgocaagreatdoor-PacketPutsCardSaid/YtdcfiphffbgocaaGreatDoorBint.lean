/-
  The contracts of Flag and Text, of the writer's Flag.
-/
import Derived.Test.YtdcfiphffbgocaaGreatDoorBval
import Derived.Test.YtdcfiphffbgocaaGreatDoorQC
namespace Go.Proofs.YtdcfiphffbgocaaGreatDoor
open Go.RowKit
theorem ret_ii {a b x y : Int} (h1 : a = x) (h2 : b = y) : Ending.returned (.tuple #[.int .i64 a, .int .i64 b]) = .returned (.tuple #[.int .i64 x, .int .i64 y]) := by rw [h1, h2]
theorem ret_bi {a x : Bool} {b y : Int} (h1 : a = x) (h2 : b = y) : Ending.returned (.tuple #[.bool a, .int .i64 b]) = .returned (.tuple #[.bool x, .int .i64 y]) := by rw [h1, h2]
theorem ret_si {a x : ByteArray} {b y : Int} (h1 : a = x) (h2 : b = y) : Ending.returned (.tuple #[.string a, .int .i64 b]) = .returned (.tuple #[.string x, .int .i64 y]) := by rw [h1, h2]

def flagE (l : List UInt8) (b : Bool) (f t : Int) : Nat :=
  if bodyE l b f t ≠ 0 then bodyE l b f t else if bodyB l b f t = [255] ∨ bodyB l b f t = [0] then 0 else 22
def flagV (l : List UInt8) (b : Bool) (f t : Int) : Bool := bodyB l b f t == [255]
def textV (l : List UInt8) (b : Bool) (f t : Int) : List UInt8 := bodyB l b f t

theorem Sl.conv {w w' : World} {v : Value} {l : List UInt8} (h : Sl w v l) (k : Ext w w') : (convert 22 9 v).run Tryz.prog w' = .ok (.string (str l)) w' := by
  rcases (h.ext k).cases with ⟨a, cap, rfl, rfl, _⟩ | ⟨g, o, cap, hpos, rfl, hcap, hmax, hc⟩
  · match a with
    | none => exact run_convert_bytes_nil w' 22 5 Tryz.underlying22 Tryz.underlying5 0 cap 9 Tryz.underlying9
    | some ad => exact run_convert_bytes_back w' 22 9 5 ad cap [] Tryz.underlying22 Tryz.underlying5 Tryz.underlying9 (fun j hj => by simp at hj)
  · exact run_convert_bytes_back w' 22 9 5 ⟨g, o, none⟩ cap l Tryz.underlying22 Tryz.underlying5 Tryz.underlying9
      (fun j hj => by rw [Addr.add_lit]; exact hc j hj)

set_option maxRecDepth 100000 in
set_option maxHeartbeats 4000000 in
theorem Text_any (w : World) (v : Value) (l : List UInt8) (c : Int) (b : Bool) (n f t : Int) (hs : Sl w v l) :
    Calls Tryz.prog 122 #[v, iv c b n f t] w fun x w' => x = .returned (.tuple #[.string (str (textV l b f t)), .int .i64 (bodyE l b f t)]) ∧ Ext w w' := by
  have hbo : ∀ ob : Obj, Calls Tryz.prog 140 #[v, iv c b n f t] (w.alloc ob) fun x w' => ∃ u, x = .returned (.tuple #[u, .int .i64 (bodyE l b f t)]) ∧ Sl (w.alloc ob) u (bodyB l b f t) ∧ Ext (w.alloc ob) w' :=
    fun ob => bodyOf_any _ v l c b n f t (hs.ext ((Ext.refl w).alloc ob))
  have hV : Hid (textV l b f t = bodyB l b f t) := rfl
  have hB : Hid (bodyE l b f t ≠ 0 → bodyB l b f t = []) := fun h => if_neg h
  clear hs
  unfold iv at hbo ⊢
  obtain ⟨E, hEe⟩ : ∃ E, bodyE l b f t = E := ⟨_, rfl⟩
  obtain ⟨B, hBe⟩ : ∃ B, bodyB l b f t = B := ⟨_, rfl⟩
  rw [hEe, hBe] at hB; rw [hBe] at hV; simp only [hEe, hBe] at hbo ⊢
  clear hEe hBe
  by_cases hE0 : E = 0
  · subst hE0
    go_enter Tryz.func122, Tryz.ntmps122
    go_wp2_with (go_at_call 140; refine (hbo _).mono ?_; rintro _ w1 ⟨u, rfl, hu, hx⟩; have hcv := hu.conv hx)
    go_ret2
    exact ⟨ret_si (by rw [hV.out]) rfl, ((Ext.refl w).alloc _).trans hx⟩
  · have hE1 : ((E : Int) == 0) = false := by simp; omega
    go_enter Tryz.func122, Tryz.ntmps122
    go_wp2_with (go_at_call 140; refine (hbo _).mono ?_; rintro _ w1 ⟨u, rfl, hu, hx⟩; clear hu)
    go_ret2
    exact ⟨ret_si (by rw [hV.out, hB.out hE0]; rfl) rfl, ((Ext.refl w).alloc _).trans hx⟩

set_option maxRecDepth 100000 in
set_option maxHeartbeats 4000000 in
theorem Flag_any (w : World) (v : Value) (l : List UInt8) (c : Int) (b : Bool) (n f t : Int) (hs : Sl w v l) :
    Calls Tryz.prog 141 #[v, iv c b n f t] w fun x w' => x = .returned (.tuple #[.bool (flagV l b f t), .int .i64 (flagE l b f t)]) ∧ Ext w w' := by
  have hbo : ∀ ob : Obj, Calls Tryz.prog 140 #[v, iv c b n f t] (w.alloc ob) fun x w' => ∃ u, x = .returned (.tuple #[u, .int .i64 (bodyE l b f t)]) ∧ Sl (w.alloc ob) u (bodyB l b f t) ∧ Ext (w.alloc ob) w' :=
    fun ob => bodyOf_any _ v l c b n f t (hs.ext ((Ext.refl w).alloc ob))
  have hF : Hid (flagE l b f t = if bodyE l b f t ≠ 0 then bodyE l b f t else if bodyB l b f t = [255] ∨ bodyB l b f t = [0] then 0 else 22) := rfl
  have hV : Hid (flagV l b f t = (bodyB l b f t == [255])) := rfl
  have hB : Hid (bodyE l b f t ≠ 0 → bodyB l b f t = []) := fun h => if_neg h
  clear hs
  unfold iv at hbo ⊢
  obtain ⟨E, hEe⟩ : ∃ E, bodyE l b f t = E := ⟨_, rfl⟩
  obtain ⟨B, hBe⟩ : ∃ B, bodyB l b f t = B := ⟨_, rfl⟩
  rw [hEe, hBe] at hB hF; rw [hBe] at hV; simp only [hEe, hBe] at hbo ⊢
  clear hEe hBe
  by_cases hE0 : E = 0
  · subst hE0
    by_cases h1 : B = [255]
    · subst h1
      go_enter Tryz.func141, Tryz.ntmps141
      go_wp2_with (go_at_call 140; refine (hbo _).mono ?_; rintro _ w1 ⟨u, rfl, hu, hx⟩; have hcv := hu.conv hx; have hst : str [255] = ⟨#[255]⟩ := rfl)
      go_ret2
      rw [hV.out, hF.out]
      exact ⟨rfl, ((Ext.refl w).alloc _).trans hx⟩
    · by_cases h2 : B = [0]
      · subst h2
        have hst2 : (str [0] == (⟨#[255]⟩ : ByteArray)) = false := by decide
        go_enter Tryz.func141, Tryz.ntmps141
        go_wp2_with (go_at_call 140; refine (hbo _).mono ?_; rintro _ w1 ⟨u, rfl, hu, hx⟩; have hcv := hu.conv hx; have hst : str [0] = ⟨#[0]⟩ := rfl)
        go_ret2
        rw [hV.out, hF.out]
        exact ⟨rfl, ((Ext.refl w).alloc _).trans hx⟩
      · have hsl : (str B).toList = B := by rw [ByteArray.toList_eq]; rfl
        have e1 : (B == [255]) = false := by simpa using h1
        have e2 : (B == [0]) = false := by simpa using h2
        have h12 : Hid (¬ (B = [255] ∨ B = [0])) := by show ¬ _; rintro (h | h) <;> contradiction
        have h1h : Hid ((B == [255]) = false) := by show _ = _; simpa using h1
        clear h1 h2
        go_enter Tryz.func141, Tryz.ntmps141
        go_wp2_with (go_at_call 140; refine (hbo _).mono ?_; rintro _ w1 ⟨u, rfl, hu, hx⟩; have hcv := hu.conv hx)
        go_ret2
        rw [hV.out, hF.out, if_neg (by simp), if_neg h12.out, h1h.out]
        exact ⟨rfl, ((Ext.refl w).alloc _).trans hx⟩
  · have hE1 : ((E : Int) == 0) = false := by simp; omega
    go_enter Tryz.func141, Tryz.ntmps141
    go_wp2_with (go_at_call 140; refine (hbo _).mono ?_; rintro _ w1 ⟨u, rfl, hu, hx⟩; clear hu)
    go_ret2
    rw [hV.out, hF.out, if_pos hE0, hB.out hE0]
    exact ⟨rfl, ((Ext.refl w).alloc _).trans hx⟩
theorem Ext.drewN {a w : World} (h : Ext a w) (q : Nat) : Ext a (w.drewN q) := ⟨h.os, h.tape, h.output, h.size, h.block⟩
theorem WFlag_any (w : World) (S : Nat → Prop) (p : Value) (st : Wr) (c n : Int) (b : Bool) (h : WrAt w S p st) (h1 : st.laid.length ≤ 67108864) (h2 : st.opn.length ≤ 1000) :
    Calls Tryz.prog 131 #[p, .int .i8 c, .int .i64 n, .bool b] w fun x w' => x = .returned (.int .i64 (layE st c n (if b then [255] else [0]))) ∧ WrAt w' (Up S w.heap.size) p (layW st c n (if b then [255] else [0])) ∧ Only S w w' := by
  have hl1 := lay_any w S p st c n ⟨#[255]⟩ h h1 h2 (by decide)
  have hl0 := lay_any w S p st c n ⟨#[0]⟩ h h1 h2 (by decide)
  rw [show byt ⟨#[255]⟩ = [255] from rfl] at hl1
  rw [show byt ⟨#[0]⟩ = [0] from rfl] at hl0
  cases b
  · go_enter Tryz.func131, Tryz.ntmps131
    go_wp2_with (go_at_call 46; refine hl0.mono ?_; rintro _ w1 ⟨rfl, h3, h4⟩)
    go_ret
    exact ⟨rfl, h3, h4⟩
  · go_enter Tryz.func131, Tryz.ntmps131
    go_wp2_with (go_at_call 46; refine hl1.mono ?_; rintro _ w1 ⟨rfl, h3, h4⟩)
    go_ret
    exact ⟨rfl, h3, h4⟩
end Go.Proofs.YtdcfiphffbgocaaGreatDoor
