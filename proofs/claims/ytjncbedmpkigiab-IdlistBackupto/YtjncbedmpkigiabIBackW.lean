/-
  IdlistBack: the walk.
-/
import Derived.Test.YtjncbedmpkigiabIbk
import Derived.Test.YtjncbedmpkigiabISearW
import Derived.Shelf.RegionOpen
import Derived.Shelf.RegionOpenPlain
namespace Go.Proofs.Ytjncbedmpkigiab
open Go.RowKit Go.Shelf

theorem pack_len (s : List UInt64) (h : s.length ≤ 1048576) : (packL s).length ≤ 12582912 := by
  unfold packL
  rw [List.length_append]
  have h1 := numB_len 10 s.length (Nat.lt_of_le_of_lt h (by decide))
  have h2 := gaps_len s s.length
  omega
theorem Unpack_pack (w1 : World) (u : Value) (s : List UInt64) (hr : Rises s) (hl : s.length ≤ 1048576) (h : Sl B8 w1 u (packL s)) :
    Calls Try.prog 15 #[u] w1 fun x w' => ∃ u2, x = .returned (.tuple #[u2, .int .i64 0]) ∧ Sl U6 w' u2 s ∧ Ext w1 w' := by
  have h1 := Unpack_any w1 u (packL s) h (by have := pack_len s hl; omega)
  rw [unpack_pack hr (by omega)] at h1
  refine h1.mono ?_
  rintro e w' ⟨u2, rfl, r, x⟩
  exact ⟨u2, rfl, r.sl, x⟩
theorem Unpack_two (w1 : World) (u : Value) (b : List UInt8) (y : List UInt64) (e : Nat) (he : unpackL b = (y, e)) (hl : b.length ≤ 1048576) (h : Sl B8 w1 u b) :
    Calls Try.prog 15 #[u] w1 fun x w' => ∃ u2, x = .returned (.tuple #[u2, .int .i64 e]) ∧ Sl U6 w' u2 y ∧ Ext w1 w' := by
  have h1 := Unpack_any w1 u b h (by omega)
  rw [he] at h1
  refine h1.mono ?_
  rintro _ w' ⟨u2, rfl, r, x⟩
  exact ⟨u2, rfl, r.sl, x⟩
theorem Pack_two (C : List UInt64 → Prop) (hset : SetFor C) (hC : ∀ l : List UInt64, l.length ≤ 1048576 → C l) (w1 : World) (v : Value) (l s : List UInt64) (he : setL l = s) (hl : l.length ≤ 1048576) (h : Sl U6 w1 v l) :
    Calls Try.prog 16 #[v] w1 fun x w' => ∃ u, x = .returned u ∧ Sl B8 w' u (packL s) ∧ Ext w1 w' := by
  refine (Pack_any C hset w1 v l (hC l hl) (by omega) h).mono ?_
  rintro _ w' ⟨u, rfl, r, x⟩
  rw [he] at r
  exact ⟨u, rfl, r.sl, x⟩

set_option maxRecDepth 100000 in
set_option maxHeartbeats 4000000 in
theorem back_walk (C : List UInt64 → Prop) (hset : SetFor C) (hC : ∀ l : List UInt64, l.length ≤ 1048576 → C l) (w : World) (v vb : Value) (l : List UInt64) (b : List UInt8) (hs : Sl U6 w v l) (hb : Sl B8 w vb b) (hl : l.length ≤ 1048576) (hbl : b.length ≤ 1048576) :
    Calls Try.prog 4 #[v, vb] w fun x w' => x = .returned (.bool true) ∧ Ext w w' := by
  obtain ⟨s, hsS⟩ : ∃ s, setL l = s := ⟨_, rfl⟩
  have hr0 : Rises s := hsS ▸ rises_setL l
  have hsl : s.length ≤ 1048576 := by have := setL_len l; rw [hsS] at this; omega
  have hP := Pack_two C hset hC w v l s hsS hl hs
  have hU1 := fun w1 u (h : Sl B8 w1 u (packL s)) => Unpack_pack w1 u s hr0 hsl h
  have hUo := fun w1 (h : Ext w w1) => Union_one C hset (w1.alloc (.cells #[v] 22)) (.slice (some ⟨w1.heap.size, 0, none⟩) 1 1) l (hC l hl) (by omega) (slS_one (hs.ext h) 22)
  simp only [union_one, hsS] at hUo
  have hsm := fun w1 u u2 (h1 : Sl U6 w1 u s) (h2 : Sl U6 w1 u2 s) => lsame_any w1 u u2 s s h1 h2
  simp only [decide_true] at hsm
  have hwk := fun w1 => wakes_any w1
  obtain ⟨⟨y, e⟩, hye⟩ : ∃ r, unpackL b = r := ⟨_, rfl⟩
  have hU2 := fun w1 (h : Ext w w1) => Unpack_two w1 vb b y e hye hbl (hb.ext h)
  have hbh : Hid (Sl B8 w vb b) := hb
  have hcode := unpack_code b
  rw [hye] at hcode
  have hyh : Hid (unpackL b = (y, e)) := hye
  obtain ⟨a, n, cap, rfl, _⟩ := hs.shape
  obtain ⟨ab, nb, capb, rfl, _⟩ := hb.shape
  clear hs hb hsS hr0 hsl hye
  by_cases he : e = 0
  · subst he
    obtain ⟨hry, hpy, hyl⟩ := pack_unpack hyh.out
    have hlr := fun w1 u (h : Sl U6 w1 u y) => lright_any w1 u y h
    rw [show rightB y = true from decide_eq_true hry] at hlr
    have hP2 := fun w1 u (h : Sl U6 w1 u y) => Pack_two C hset hC w1 u y y (setL_rises hry) (by omega) h
    rw [hpy] at hP2
    clear hcode hry hpy hyl hyh
    have hmx := (by kernel_rfl : Try.prog.follows Departure.mixedOrders = true)
    go_enter Try.func4, Try.ntmps4
    go_wp2_with (first
      | (go_at_call 16; refine hP.mono ?_; rintro _ w1 ⟨u1, rfl, s1, x1⟩; obtain ⟨ua, un, uc, rfl, _⟩ := s1.shape)
      | (go_at_call 15; clear hP; refine (hU1 _ _ s1).mono ?_; clear hU1; rintro _ w2 ⟨u2, rfl, s2, x2⟩; obtain ⟨ub, um, ud, rfl, _⟩ := s2.shape)
      | (go_at_call 6; refine (hUo _ (x1.trans x2)).mono ?_; rintro _ w3 ⟨u3, rfl, r3, x3⟩; have s3 := r3.sl; have x3' := ((Ext.refl _).alloc _).trans x3; obtain ⟨uf, ug, uh, rfl, _⟩ := s3.shape)
      | (go_at_call 11; refine (hsm _ _ _ (s2.ext x3') s3).mono ?_; rintro _ w4 ⟨rfl, x4⟩)
      | (go_at_call 15; refine (hU2 _ (((x1.trans x2).trans x3').trans x4)).mono ?_; rintro _ w5 ⟨u5, rfl, s5, x5⟩; obtain ⟨ui, uj, uk, rfl, _⟩ := s5.shape))
    have x05 : Ext w w5 := (((x1.trans x2).trans x3').trans x4).trans x5
    have cvb5 := sl_conv (hbh.out.ext x05)
    have cvb5d := sl_conv (hbh.out.ext x05.drew)
    have s5d := s5.ext ((Ext.refl _).drew)
    clear hU2 hUo hsm
    go_region_with_o (first
      | (go_at_call 10; refine (hlr _ _ s5d).mono ?_; rintro _ w6 ⟨rfl, x6⟩; have x06 := x05.drew.trans x6; have s6 := s5d.ext x6; have cvb6 := sl_conv (hbh.out.ext x06))
      | (go_at_call 16; refine (hP2 _ _ s6).mono ?_; rintro _ w7 ⟨u7, rfl, s7, x7⟩; have x07 := x06.trans x7; have cvb7 := sl_conv (hbh.out.ext x07); have cvp7 := sl_conv s7; obtain ⟨up, uq, ur, rfl, _⟩ := s7.shape)
      | (go_at_call 14; refine (hwk _).mono ?_; rintro _ w8 ⟨rfl, x8⟩))
    all_goals go_wp2
    all_goals go_ret
    all_goals exact ⟨by first | (simp; done) | (simp [Act.put]; done), x07.trans x8⟩
  · obtain ⟨hy0, hE⟩ : y = [] ∧ (e = 2 ∨ e = 5) := by
      rcases hcode with h | h
      · exact absurd h he
      · exact h
    subst hy0
    clear hcode he hyh
    rcases hE with hE | hE
    · subst hE
      go_enter Try.func4, Try.ntmps4
      go_wp2_with (first
        | (go_at_call 16; refine hP.mono ?_; rintro _ w1 ⟨u1, rfl, s1, x1⟩; obtain ⟨ua, un, uc, rfl, _⟩ := s1.shape)
        | (go_at_call 15; clear hP; refine (hU1 _ _ s1).mono ?_; clear hU1; rintro _ w2 ⟨u2, rfl, s2, x2⟩; obtain ⟨ub, um, ud, rfl, _⟩ := s2.shape)
        | (go_at_call 6; refine (hUo _ (x1.trans x2)).mono ?_; rintro _ w3 ⟨u3, rfl, r3, x3⟩; have s3 := r3.sl; have x3' := ((Ext.refl _).alloc _).trans x3; obtain ⟨uf, ug, uh, rfl, _⟩ := s3.shape)
        | (go_at_call 11; refine (hsm _ _ _ (s2.ext x3') s3).mono ?_; rintro _ w4 ⟨rfl, x4⟩)
        | (go_at_call 15; refine (hU2 _ (((x1.trans x2).trans x3').trans x4)).mono ?_; rintro _ w5 ⟨u5, rfl, s5, x5⟩; obtain ⟨ui, uj, uk, rfl, huj⟩ := s5.shape; obtain rfl : uj = 0 := huj.out)
        | (go_at_call 14; refine (hwk _).mono ?_; rintro _ w8 ⟨rfl, x8⟩))
      all_goals go_ret
      all_goals exact ⟨by simp, ((((x1.trans x2).trans x3').trans x4).trans x5).trans x8⟩
    · subst hE
      go_enter Try.func4, Try.ntmps4
      go_wp2_with (first
        | (go_at_call 16; refine hP.mono ?_; rintro _ w1 ⟨u1, rfl, s1, x1⟩; obtain ⟨ua, un, uc, rfl, _⟩ := s1.shape)
        | (go_at_call 15; clear hP; refine (hU1 _ _ s1).mono ?_; clear hU1; rintro _ w2 ⟨u2, rfl, s2, x2⟩; obtain ⟨ub, um, ud, rfl, _⟩ := s2.shape)
        | (go_at_call 6; refine (hUo _ (x1.trans x2)).mono ?_; rintro _ w3 ⟨u3, rfl, r3, x3⟩; have s3 := r3.sl; have x3' := ((Ext.refl _).alloc _).trans x3; obtain ⟨uf, ug, uh, rfl, _⟩ := s3.shape)
        | (go_at_call 11; refine (hsm _ _ _ (s2.ext x3') s3).mono ?_; rintro _ w4 ⟨rfl, x4⟩)
        | (go_at_call 15; refine (hU2 _ (((x1.trans x2).trans x3').trans x4)).mono ?_; rintro _ w5 ⟨u5, rfl, s5, x5⟩; obtain ⟨ui, uj, uk, rfl, huj⟩ := s5.shape; obtain rfl : uj = 0 := huj.out)
        | (go_at_call 14; refine (hwk _).mono ?_; rintro _ w8 ⟨rfl, x8⟩))
      all_goals go_ret
      all_goals exact ⟨by simp, ((((x1.trans x2).trans x3').trans x4).trans x5).trans x8⟩
end Go.Proofs.Ytjncbedmpkigiab
