/-
  How words sound: the codes of all rows of letters.
-/
import Derived.Test.YtimjmecogbkgfaaGreatDoorCode
namespace Go.Proofs.YtimjmecogbkgfaaGreatDoor
open Go.RowKit
open Go.Lib (decodeL)

theorem Own.form {w : World} {B : Nat} {v : Value} {l : List UInt8} (h : Own w B v l) : ∃ ad cap, v = .slice ad l.length cap := by
  rcases h.2 with ⟨h1, h2⟩ | ⟨g, cap, cur, h1, _⟩
  · exact ⟨none, 0, by rw [h2]; exact h1⟩
  · exact ⟨_, cap, h1⟩
theorem one_cell (w : World) (b : UInt8) : ∀ (j : Nat) (h : j < [b].length), (w.alloc (.cells #[.int .u8 b.toNat] 5)).cell? ⟨w.heap.size, j, none⟩ = some (B8 [b][j]) := by
  intro j h
  have h0 : j = 0 := by simpa using h
  subst h0
  exact heap_cellC (heap_alloc_new w _) 0
theorem codeL_len (a : UInt8) (t : List UInt8) : (codeL (a :: t)).length = 4 := by
  unfold codeL
  rw [List.length_cons, List.length_take, List.length_append]
  simp

set_option maxRecDepth 100000 in
set_option maxHeartbeats 2000000 in
theorem appendCode_any (w : World) (B : Nat) (u v : Value) (k l : List UInt8) (h2 : Two w B u v k l) (hB : B ≤ w.heap.size) (hl : l.all isSml = true) (hk : k.length ≤ 100000000000) (hl2 : l.length ≤ 100000000000) :
    Calls Tryz.prog 59 #[u, v] w fun e w' => ∃ u', e = .returned u' ∧ Two w' B u' v (appC k l) l ∧ Fr B w w' := by
  obtain ⟨ad, cap, hv⟩ := h2.b.form
  obtain ⟨au, cu, hu⟩ := h2.a.form
  cases l with
  | nil =>
    subst hv hu
    go_enter Tryz.func59, Tryz.ntmps59
    go_wp2
    go_ret
    exact ⟨_, rfl, h2, Fr.refl _ _⟩
  | cons a t =>
    have hla : (a :: t).length = t.length + 1 := rfl
    have hcl := codeL_len a t
    have HC : Hid _ := cods_code a (by rw [List.all_cons, Bool.and_eq_true] at hl; exact hl.1) t
    have hco := fun (w' : World) (h : Own w' B v (a :: t)) => codeOf_any w' B v a t h hl (by simp at hl2; omega)
    have hcell : ∀ W : World, ∀ (j : Nat) (h : j < (codeL (a :: t)).length), (W.alloc (.cells (cods a (codeGo (snd a) t)) 101)).cell? ⟨W.heap.size, j, none⟩ = some (B8 (codeL (a :: t))[j]) := by
      intro W j h
      rw [heap_cellC (heap_alloc_new W _) j, HC.out]
      simp [List.getElem?_eq_getElem h]
    simp only [cods, B8] at hco hcell
    generalize (codeGo (snd a) t).getD 0 48 = x1 at hco hcell
    generalize (codeGo (snd a) t).getD 1 48 = x2 at hco hcell
    generalize (codeGo (snd a) t).getD 2 48 = x3 at hco hcell
    generalize a.toNat - 32 = n0 at hco hcell
    by_cases hk0 : k = []
    · subst hk0
      have HA : Hid (appC [] (a :: t) = [] ++ codeL (a :: t)) := by show appC _ _ = _; unfold appC; rw [if_neg (by simp), if_pos rfl]; rfl
      subst hv hu
      have hlI : ((a :: t).length : Int) = (t.length : Int) + 1 := by simp
      have hB2 := hB
      go_enter Tryz.func59, Tryz.ntmps59
      go_wp2_with (first
        | (go_at_call 90; refine (hco _ h2.b).mono ?_; rintro e w2 ⟨rfl, hf2⟩; have t2 := h2.below hf2; have b2 : B ≤ w2.heap.size := Nat.le_trans hB hf2.size)
        | (at_builtin; refine wpList_push2 rfl _ _ rfl B _ _ (a :: t) [] (codeL (a :: t)) (t2.swap.alloc _) (by simp; omega) rfl w2.heap.size 4 4 rfl hcl.symm (hcell w2) (by rw [hcl]; simp) ?_; intro v3 w3 t3 f3))
      go_ret
      exact ⟨_, rfl, by rw [HA.out]; exact t3.swap, (hf2.mono hB).trans (((Fr.refl _ _).alloc b2 _).trans f3)⟩
    · have HA : Hid (appC k (a :: t) = (k ++ [32]) ++ codeL (a :: t)) := by show appC _ _ = _; unfold appC; rw [if_neg (by simp), if_neg hk0]; simp
      have hkl : 0 < k.length := List.length_pos_iff.2 hk0
      subst hv hu
      have hkI : (0 : Int) < (k.length : Int) := by omega
      have hlI : ((a :: t).length : Int) = (t.length : Int) + 1 := by simp
      have mk : True := trivial
      go_enter Tryz.func59, Tryz.ntmps59
      go_wp2_with (first
        | (at_builtin; clear mk; refine wpList_push2 rfl _ _ rfl B _ _ (a :: t) k [32] (h2.swap.alloc _) (by simp; omega) rfl w.heap.size 1 1 rfl rfl (one_cell w 32) (by simp; omega) ?_; intro v3 w3 t3 f3; have b3 : B ≤ w3.heap.size := Nat.le_trans hB (by have := f3.size; simp at this; omega))
        | (go_at_call 90; refine (hco _ t3.a).mono ?_; rintro e w2 ⟨rfl, hf2⟩; have t2 := t3.below hf2; have b2 : B ≤ w2.heap.size := Nat.le_trans b3 hf2.size)
        | (at_builtin; refine wpList_push2 rfl _ _ rfl B _ _ (a :: t) (k ++ [32]) (codeL (a :: t)) (t2.alloc _) (by simp; omega) rfl w2.heap.size 4 4 rfl hcl.symm (hcell w2) (by rw [hcl]; simp; omega) ?_; intro v4 w4 t4 f4))
      go_ret
      exact ⟨_, rfl, by rw [HA.out]; exact t4.swap, (((Fr.refl _ _).alloc hB _).trans f3).trans ((hf2.mono b3).trans (((Fr.refl _ _).alloc b2 _).trans f4))⟩
end Go.Proofs.YtimjmecogbkgfaaGreatDoor
