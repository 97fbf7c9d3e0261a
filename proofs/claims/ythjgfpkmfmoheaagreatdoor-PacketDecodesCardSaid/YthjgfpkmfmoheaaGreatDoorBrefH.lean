/-
 The document's own Head answers as the program's.
-/
import Derived.Test.YthjgfpkmfmoheaaGreatDoorBval
import Derived.Test.YthjgfpkmfmoheaaGreatDoorBint
namespace Go.Proofs.YthjgfpkmfmoheaaGreatDoor
open Go.RowKit Go.Shelf

def s8 (a : Nat) : Int := if a < 128 then (a : Int) else (a : Int) - 256
theorem wrap_i8 (a : Nat) (h : a < 256) : IntKind.i8.wrap (a : Int) = s8 a := by
 have e : IntKind.i8.wrap (a : Int) = if 128 ≤ (a : Int) % 256 then (a : Int) % 256 - 256 else (a : Int) % 256 := by simp [IntKind.wrap, IntKind.bits, IntKind.signed]
 rw [e]; unfold s8; split <;> split <;> omega

set_option maxRecDepth 100000 in
set_option maxHeartbeats 8000000 in
theorem rHead_any (w : World) (v : Value) (l : List UInt8) (a e : Int) (hs : Sl w v l) (hl : l.length < 36028797018963968) (hwin : 0 ≤ a → a ≤ e → e ≤ l.length → e - a ≤ 1048576) :
   Calls Tryz.prog 83 #[v, .int .i64 a, .int .i64 e] w fun x w' => x = .returned (.tuple #[tv (headL l a e).1, .int .i64 (headL l a e).2]) ∧ Ext w w' := by
 have hH : Hid (headL l a e = if 0 ≤ a ∧ a ≤ e ∧ e ≤ l.length then headB a.toNat (cutB l a.toNat e.toNat) else (.zero, 2)) := rfl
 by_cases hw : 0 ≤ a ∧ a ≤ e ∧ e ≤ l.length
 · obtain ⟨hw1, hw2, hw3⟩ := hw
   have hji := hwin hw1 hw2 hw3
   clear hwin
   obtain ⟨i, rfl⟩ := Int.eq_ofNat_of_zero_le hw1
   obtain ⟨j, rfl⟩ := Int.eq_ofNat_of_zero_le (show 0 ≤ e by omega)
   rw [if_pos ⟨hw1, hw2, hw3⟩] at hH
   simp only [Int.toNat_natCast] at hH
   rcases hs.cases with ⟨ad, cap, rfl, rfl, _⟩ | ⟨g, o, cap, hpos, rfl, hcap, hmax, hc⟩
   · obtain rfl : j = 0 := by simp at hw3; omega
     obtain rfl : i = 0 := by omega
     go_enter Tryz.func83, Tryz.ntmps83
     go_wp2
     refine post_tlv rfl rfl w.heap.size _ _ rfl (heap_alloc_new _ _) rfl ?_
     rw [hH.out]
     exact ⟨rfl, (Ext.refl w).alloc _⟩
   · obtain ⟨n, hn⟩ : ∃ n, l.length = n := ⟨_, rfl⟩
     have hlen : Hid ((cutB l i j).length = j - i) := cutB_length l i j (by omega)
     have hcut : Hid (∀ k (h : k < (cutB l i j).length), w.cell? ⟨g, o + (i + k), none⟩ = some (B8 (cutB l i j)[k])) := fun k hk => by
       have hk' := hk
       rw [hlen.out] at hk
       rw [hc (i + k) (by omega)]
       simp [cutB]
     rw [hn] at hw3 hcap hl ⊢
     clear hc hs hpos
     obtain ⟨c, hcc⟩ : ∃ c, cutB l i j = c := ⟨_, rfl⟩
     rw [hcc] at hH hlen hcut
     clear hn hcc
     match c with
     | [] =>
       have hij : j = i := by have := hlen.out; simp at this; omega
       subst hij
       go_enter Tryz.func83, Tryz.ntmps83
       go_wp2
       refine post_tlv rfl rfl w.heap.size _ _ rfl (heap_alloc_new _ _) rfl ?_
       rw [hH.out]
       exact ⟨rfl, (Ext.refl w).alloc _⟩
     | t :: r =>
       have hc0 := hcut.out 0 (by simp)
       simp only [B8, List.getElem_cons_zero, Nat.add_zero] at hc0
       have hij1 : i < j := by have := hlen.out; simp at this; omega
       have hrl : Hid (r.length = j - i - 1) := by show _ = _; have := hlen.out; simp at this; omega
       have hf : t.toNat < 256 := t.toNat_lt
       have hHB : Hid (headB i (t :: r) = if t.toNat % 32 = 31 then (.zero, 20)
         else if (bodyLen r).2.2 ≠ 0 then (.zero, (bodyLen r).2.2)
         else (⟨t.toNat / 64, t.toNat / 32 % 2 == 1, t.toNat % 32, i + 1 + (bodyLen r).1, i + 1 + (bodyLen r).1 + (bodyLen r).2.1⟩, 0)) := rfl
       obtain ⟨f, hfe⟩ : ∃ f : Nat, t.toNat = f := ⟨_, rfl⟩
       rw [hfe] at hc0 hf hHB
       have hc0A : ∀ ob : Obj, (w.alloc ob).cell? ⟨g, o + i, none⟩ = some (.int .u8 f) := fun ob => ((Ext.refl w).alloc ob).cell hc0
       have hmx : Tryz.prog.follows .mixedOrders = true := by kernel_rfl
       have hij2 : ((i : Int) == (j : Int)) = false := by simp; omega
       have hin : (i : Int) < (n : Int) := by omega
       have hi0 : (0 : Int) ≤ (i : Int) := by omega
       have hi00 : decide ((i : Int) < 0) = false := by simp
       obtain ⟨c1, hc1⟩ : ∃ c1 : Nat, f / 64 = c1 := ⟨_, rfl⟩
       obtain ⟨c2, hc2⟩ : ∃ c2 : Nat, f / 32 = c2 := ⟨_, rfl⟩
       obtain ⟨c3, hc3⟩ : ∃ c3 : Nat, f % 32 = c3 := ⟨_, rfl⟩
       have w1 : IntKind.u8.wrap ((f : Int) / 64) = (c1 : Int) := by rw [IntKind.wrap_u8]; omega
       have w2 : IntKind.i8.wrap (c1 : Int) = (c1 : Int) := by rw [wrap_i8 c1 (by omega)]; unfold s8; rw [if_pos (by omega)]
       have w3 : IntKind.u8.wrap ((f : Int) / 32) = (c2 : Int) := by rw [IntKind.wrap_u8]; omega
       have w4 : ((c2 : Int)).tmod 2 = (c2 : Int) % 2 := Int.tmod_eq_emod_of_nonneg (by omega)
       have w5 : ((f : Int)).tmod 32 = (c3 : Int) := by rw [Int.tmod_eq_emod_of_nonneg (by omega)]; omega
       have w6 : IntKind.i64.wrap (c3 : Int) = (c3 : Int) := by rw [IntKind.wrap_i64]; omega
       have w7 : Hid ((((c2 : Int) % 2) == 1) = (c2 % 2 == 1)) := by show _ = _; rw [Bool.eq_iff_iff]; simp; omega
       rw [hc1, hc2, hc3] at hHB
       go_enter Tryz.func83, Tryz.ntmps83
       go_wp2
       go_region_held3 (fun W => W.cell? ⟨g, o + i, none⟩ = some (.int .u8 f)) (go_keep) ((fail))
       generalize hb2 : (((c2 : Int) % 2) == 1) = B2
       have hB2 : Hid (B2 = (c2 % 2 == 1)) := by show _ = _; rw [← hb2]; exact w7.out
       clear hb2 w1 w2 w3 w4 w5 w6 w7
       by_cases h31 : c3 = 31
       · subst h31
         go_wp2
         refine post_tlv rfl rfl w.heap.size _ _ rfl (heap_new2 _ _ _) rfl ?_
         rw [hH.out, hHB.out]
         exact ⟨rfl, (((Ext.refl w).alloc _).alloc _).drew⟩
       · have n31 : ((c3 : Int) == 31) = false := by simp; omega
         rw [if_neg h31] at hHB
         match r with
         | [] =>
           have hj : (i : Int) + 1 = (j : Int) := by have := hrl.out; simp at this; omega
           go_wp2
           refine post_tlv rfl rfl w.heap.size _ _ rfl (heap_new2 _ _ _) rfl ?_
           rw [hH.out, hHB.out]
           exact ⟨rfl, (((Ext.refl w).alloc _).alloc _).drew⟩
         | u :: r2 =>
           have hj : (((i : Int) + 1) == (j : Int)) = false := by have := hrl.out; simp at this; simp; omega
           have hi2 : i + 2 ≤ j := by have := hrl.out; simp at this; omega
           have hr2 : Hid (r2.length = j - i - 2) := by show _ = _; have := hrl.out; simp at this; omega
           have hcu := hcut.out 1 (by simp)
           simp only [B8, List.getElem_cons_zero, List.getElem_cons_succ] at hcu
           have hq : u.toNat < 256 := u.toNat_lt
           have hBL : Hid (bodyLen (u :: r2) = if u.toNat = 128 ∨ u.toNat = 255 then (0, 0, 21)
             else if u.toNat < 128 then (if r2.length < u.toNat then (0, 0, 5) else (1, u.toNat, 0))
             else if r2.length < u.toNat - 128 then (0, 0, 5)
             else if r2.length - (u.toNat - 128) < big (r2.take (u.toNat - 128)) then (0, 0, 5)
             else (1 + (u.toNat - 128), big (r2.take (u.toNat - 128)), 0)) := rfl
           obtain ⟨q, hqe⟩ : ∃ q : Nat, u.toNat = q := ⟨_, rfl⟩
           rw [hqe] at hcu hq hBL
           have hcuA : ∀ ob ob2 : Obj, ((w.alloc ob).alloc ob2).cell? ⟨g, o + (i + 1), none⟩ = some (.int .u8 q) := fun ob ob2 => (((Ext.refl w).alloc ob).alloc ob2).cell hcu
           have hin2 : (i : Int) + 1 < (n : Int) := by omega
           have hitn : ((i : Int) + 1).toNat = i + 1 := by omega
           rw [hr2.out] at hBL
           by_cases q1 : q = 128
           · subst q1
             go_wp2
             refine post_tlv rfl rfl w.heap.size _ _ rfl (heap_new2 _ _ _) rfl ?_
             rw [hH.out, hHB.out, hBL.out]
             exact ⟨rfl, (((Ext.refl w).alloc _).alloc _).drew⟩
           by_cases q2 : q = 255
           · subst q2
             go_wp2
             refine post_tlv rfl rfl w.heap.size _ _ rfl (heap_new2 _ _ _) rfl ?_
             rw [hH.out, hHB.out, hBL.out]
             exact ⟨rfl, (((Ext.refl w).alloc _).alloc _).drew⟩
           have m1 : ((q : Int) == 128) = false := by simp; omega
           have m2 : ((q : Int) == 255) = false := by simp; omega
           rw [if_neg (by omega)] at hBL
           by_cases q3 : q < 128
           · have m3 : decide ((128 : Int) < (q : Int)) = false := by simp; omega
             rw [if_pos q3] at hBL
             by_cases q4 : j - i - 2 < q
             · have m4 : (j : Int) - ((i : Int) + 2) < (q : Int) := by omega
               rw [if_pos q4] at hBL
               go_wp2
               refine post_tlv rfl rfl w.heap.size _ _ rfl (heap_new2 _ _ _) rfl ?_
               rw [hH.out, hHB.out, hBL.out]
               exact ⟨rfl, (((Ext.refl w).alloc _).alloc _).drew⟩
             · have m4 : ¬ (j : Int) - ((i : Int) + 2) < (q : Int) := by omega
               rw [if_neg q4] at hBL
               go_wp2
               refine post_tlv rfl rfl w.heap.size _ _ rfl (heap_new2 _ _ _) rfl ?_
               rw [hH.out, hHB.out, hBL.out, hB2.out]
               refine ⟨?_, (((Ext.refl w).alloc _).alloc _).drew⟩
               simp [tv]
               omega
           · have m3 : (128 : Int) < (q : Int) := by omega
             rw [if_neg q3] at hBL
             obtain ⟨kk, hkk⟩ : ∃ kk, q - 128 = kk := ⟨_, rfl⟩
             rw [hkk] at hBL
             have m5 : (q : Int) - 128 = (kk : Int) := by omega
             by_cases q4 : j - i - 2 < kk
             · have m4 : (j : Int) - ((i : Int) + 2) < (kk : Int) := by omega
               rw [if_pos q4] at hBL
               go_wp2
               refine post_tlv rfl rfl w.heap.size _ _ rfl (heap_new2 _ _ _) rfl ?_
               rw [hH.out, hHB.out, hBL.out]
               exact ⟨rfl, (((Ext.refl w).alloc _).alloc _).drew⟩
             · have m4 : ¬ (j : Int) - ((i : Int) + 2) < (kk : Int) := by omega
               rw [if_neg q4] at hBL
               have hstep : Hid (∀ m, m < kk → ∃ y : Nat, y < 256 ∧ big (r2.take (m + 1)) = 256 * big (r2.take m) + y ∧ w.cell? ⟨g, o + (i + 2 + m), none⟩ = some (.int .u8 y)) := fun m hm => by
                 have hml : m < r2.length := by rw [hr2.out]; omega
                 refine ⟨r2[m].toNat, r2[m].toNat_lt, big_take_succ r2 m hml, ?_⟩
                 have h9 := hcut.out (m + 2) (by simp; omega)
                 rw [show i + 2 + m = i + (m + 2) by omega, h9]
                 rfl
               have hbig0 : Hid (big (r2.take 0) = 0) := rfl
               obtain ⟨Bg, hBg⟩ : ∃ Bg : Nat → Nat, (fun m => big (r2.take m)) = Bg := ⟨_, rfl⟩
               have hBgm : ∀ m, big (r2.take m) = Bg m := fun m => congrFun hBg m
               simp only [hBgm] at hstep hBL hbig0
               clear hBgm hBg
               go_wp2
               go_loopw [9, 11] (fun x y wr => ∃ m : Nat, m ≤ kk ∧ x = .int .i64 ((min (Bg m) 1099511627776 : Nat) : Int) ∧ y = .int .i64 m ∧ wr = ((w.alloc (.cells #[.int .i8 0, .bool false, .int .i64 0, .int .i64 0, .int .i64 0] 94)).alloc (.cells #[.int .i8 c1, .bool B2, .int .i64 c3, .int .i64 ((i : Int) + 2), .int .i64 0] 94)).drew) (fun _ y _ => kk - (intOf y).toNat)
               case atStart => exact ⟨0, Nat.zero_le _, by rw [hbig0.out]; rfl, rfl, rfl⟩
               case round =>
                 obtain ⟨m, hm, rfl, rfl, rfl⟩ := hrel
                 by_cases hlt : m < kk
                 · obtain ⟨y, hy, hyb, hyc⟩ := hstep.out m hlt
                   have hycA : ∀ ob ob2 : Obj, ((w.alloc ob).alloc ob2).cell? ⟨g, o + (i + 2 + m), none⟩ = some (.int .u8 y) := fun ob ob2 => (((Ext.refl w).alloc ob).alloc ob2).cell hyc
                   obtain ⟨X, hX⟩ : ∃ X, min (Bg m) 1099511627776 = X := ⟨_, rfl⟩
                   have hXb : X ≤ 1099511627776 := by rw [← hX]; exact Nat.min_le_right _ _
                   have hXn : Hid (min (Bg (m + 1)) 1099511627776 = min (256 * X + y) 1099511627776) := by show _ = _; rw [hyb, ← hX]; omega
                   have hti : ((i : Int) + 2 + (m : Int)).toNat = i + 2 + m := by omega
                   have hlo : (i : Int) + 2 + (m : Int) < (n : Int) := by omega
                   rw [hX]
                   clear hyb hyc hX
                   go_wp2
                   go_roundw
                   case rel =>
                     refine ⟨m + 1, by omega, ?_, by go_num, by first | rfl | trivial⟩
                     rw [hXn.out]
                     congr 1
                     split <;> omega
                   case measure => simp [intOf]; omega
                 · obtain rfl : m = kk := by omega
                   obtain ⟨Y, hY⟩ : ∃ Y, Bg m = Y := ⟨_, rfl⟩
                   obtain ⟨X, hX⟩ : ∃ X, min (Bg m) 1099511627776 = X := ⟨_, rfl⟩
                   rw [hX]
                   rw [hY] at hBL hX
                   by_cases q5 : j - i - 2 - m < Y
                   · rw [if_pos q5] at hBL
                     have m6 : (j : Int) - ((i : Int) + 2 + (m : Int)) < (X : Int) := by omega
                     clear hX hY hstep
                     go_wp2
                     refine post_tlv rfl rfl w.heap.size _ _ rfl (heap_new2 _ _ _) rfl ?_
                     rw [hH.out, hHB.out, hBL.out]
                     exact ⟨rfl, (((Ext.refl w).alloc _).alloc _).drew⟩
                   · rw [if_neg q5] at hBL
                     have m6 : ¬ (j : Int) - ((i : Int) + 2 + (m : Int)) < (X : Int) := by omega
                     have hXY : Hid (X = Y) := by show _ = _; omega
                     clear hX hY hstep
                     go_wp2
                     refine post_tlv rfl rfl w.heap.size _ _ rfl (heap_new2 _ _ _) rfl ?_
                     rw [hH.out, hHB.out, hBL.out, hB2.out]
                     refine ⟨?_, (((Ext.refl w).alloc _).alloc _).drew⟩
                     rw [hXY.out]
                     simp [tv]
                     omega
 · rw [if_neg hw] at hH
   clear hwin
   obtain ⟨ad, cap, rfl, h1, h2, _⟩ := hs
   obtain ⟨k, hk⟩ : ∃ k, l.length = k := ⟨_, rfl⟩
   rw [hk] at hw h1 ⊢
   by_cases n1 : a < 0
   · go_enter Tryz.func83, Tryz.ntmps83
     go_wp2
     refine post_tlv rfl rfl w.heap.size _ _ rfl (heap_alloc_new _ _) rfl ?_
     rw [hH.out]
     exact ⟨rfl, (Ext.refl w).alloc _⟩
   · by_cases n2 : e < a
     · go_enter Tryz.func83, Tryz.ntmps83
       go_wp2
       refine post_tlv rfl rfl w.heap.size _ _ rfl (heap_alloc_new _ _) rfl ?_
       rw [hH.out]
       exact ⟨rfl, (Ext.refl w).alloc _⟩
     · have n3 : (k : Int) < e := by omega
       clear hw
       go_enter Tryz.func83, Tryz.ntmps83
       go_wp2
       refine post_tlv rfl rfl w.heap.size _ _ rfl (heap_alloc_new _ _) rfl ?_
       rw [hH.out]
       exact ⟨rfl, (Ext.refl w).alloc _⟩
end Go.Proofs.YthjgfpkmfmoheaaGreatDoor
