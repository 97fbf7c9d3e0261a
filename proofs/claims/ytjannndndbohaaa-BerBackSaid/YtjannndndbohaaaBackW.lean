/-
  BerBack's walk: whatever the items.
-/
import Derived.Test.YtjannndndbohaaaBreadsW
namespace Go.Proofs.Ytjannndndbohaaa
open Go.RowKit Go.Shelf

set_option maxRecDepth 100000 in
set_option maxHeartbeats 4000000 in
theorem BerBack_walk (w : World) (v : Value) (x : IT) (hv : ItSl w v x) : Calls Try.prog 8 #[v] w fun y w' => y = .returned (.bool true) ∧ Ext w w' := by
  have pworks := works_any w
  have pnew := fun w1 (hx : Ext w w1) => New_wk w w1 hx
  have hs0 : Small st0 500 0 := ⟨by decide, rfl, by omega, trivial⟩
  have play := fun w1 g (h : Wk w w1 (.pointer (some ⟨g, 0, none⟩)) st0) => lay_tree w (x.size + 1) x w1 v (.pointer (some ⟨g, 0, none⟩)) st0 0 500 (Nat.lt_succ_self _) hv h hs0 (Nat.le_refl _)
  have hb := layL_bound x 0 500 (Nat.le_refl _)
  have hcut : Hid (cutB (layL x 0 500).1 0 (layL x 0 500).1.length = (layL x 0 500).1) := by show _ = _; simp [cutB]
  have pbytes := fun w1 g (h : Wk w w1 (.pointer (some ⟨g, 0, none⟩)) ⟨(layL x 0 500).1, []⟩) => Bytes_any w1 _ _ _ h.1 (by simp only; omega)
  have hE : ∀ l : List UInt8, bytesE ⟨l, []⟩ = 0 := fun l => rfl
  simp only [hE, if_true] at pbytes
  have preads := fun w1 u (hx : Ext w w1) (hu : Sl w1 u (layL x 0 500).1) => reads_tree w1 u (layL x 0 500).1 hu (by omega) (x.size + 1) x w1 v 0 (layL x 0 500).1.length 0 500 (Nat.lt_succ_self _) (hv.ext hx) (Ext.refl _) (by omega) (Nat.le_refl _) (Nat.zero_le _) (Nat.le_refl _) hcut.out
  simp only [st0, List.nil_append] at play
  generalize layL x 0 500 = q at *
  obtain ⟨n, hn⟩ : ∃ n, q.1.length = n := ⟨_, rfl⟩
  have hnh : Hid (q.1.length = n) := hn
  rw [hn] at preads
  clear hs0 hv hb hE hn
  go_enter Try.func8, Try.ntmps8
  go_wp2_with (first
    | (go_at_call 13; refine pworks.mono ?_; rintro _ w1 ⟨rfl, x1⟩)
    | (go_at_call 26; refine (pnew w1 x1).mono ?_; rintro _ w2 ⟨g, rfl, hw2⟩)
    | (go_at_call 34; refine (play w2 g hw2).mono ?_; rintro _ w3 ⟨rfl, hw3⟩)
    | (go_at_call 31; refine (pbytes w3 g hw3).mono ?_; rintro _ w4 ⟨u, rfl, hu, x4⟩; have hsl := hu.sl; obtain ⟨a, k, cap, rfl, hkk⟩ := hu.lit; obtain rfl : k = n := hkk.out.trans hnh.out; have hx4 : Ext w w4 := hw3.2.trans x4)
    | (go_at_call 35; refine (preads w4 _ hx4 hsl).mono ?_; rintro _ w5 ⟨rfl, x5⟩))
  go_ret
  exact ⟨rfl, hx4.trans x5⟩
end Go.Proofs.Ytjannndndbohaaa
