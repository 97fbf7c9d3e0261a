/-
  How words sound: the codes of all rows of letters.
-/
import Derived.Test.YtimjmecogbkgfabGreatDoorCode
namespace Go.Proofs.YtimjmecogbkgfabGreatDoor
open Go.RowKit
open Go.Lib (decodeL)

theorem Own.form {w : World} {B : Nat} {v : Value} {l : List UInt8} (h : Own w B v l) : ∃ ad cap, v = .slice ad l.length cap := by
  rcases h.2 with ⟨h1, h2⟩ | ⟨g, cap, cur, h1, _⟩
  · exact ⟨none, 0, by rw [h2]; exact h1⟩
  · exact ⟨_, cap, h1⟩
theorem one_cell (w : World) (b : UInt8) : ∀ (j : Nat) (h : j < [b].length), (w.alloc (.cells #[.int .u8 b.toNat] 5)).cell? ⟨w.heap.size, j, none⟩ = some (B8 [b][j]) := by
  intro j h
  have h0 : j = 0 := by simpa using h
  subst h0
  exact heap_cellC (heap_alloc_new w _) 0
theorem codeL_len (a : UInt8) (t : List UInt8) : (codeL (a :: t)).length = 4 := by
  unfold codeL
  rw [List.length_cons, List.length_take, List.length_append]
  simp

set_option maxRecDepth 100000 in
set_option maxHeartbeats 2000000 in
theorem appendCode_any (w : World) (B : Nat) (u v : Value) (k l : List UInt8) (h2 : Two w B u v k l) (hB : B ≤ w.heap.size) (hl : l.all isSml = true) (hk : k.length ≤ 100000000000) (hl2 : l.length ≤ 100000000000) :
    Calls Tryz.prog 17 #[u, v] w fun e w' => ∃ u', e = .returned u' ∧ Two w' B u' v (appC k l) l ∧ Fr B w w' := by
  obtain ⟨ad, cap, hv⟩ := h2.b.form
  obtain ⟨au, cu, hu⟩ := h2.a.form
  cases l with
  | nil =>
    subst hv hu
    go_enter Tryz.func17, Tryz.ntmps17
    go_wp2
    go_ret
    exact ⟨_, rfl, h2, Fr.refl _ _⟩
  | cons a t =>
    have hla : (a :: t).length = t.length + 1 := rfl
    have hcl := codeL_len a t
    have HC : Hid _ := cods_code a (by rw [List.all_cons, Bool.and_eq_true] at hl; exact hl.1) t
    have hco := fun (w' : World) (h : Own w' B v (a :: t)) => codeOf_any w' B v a t h hl (by simp at hl2; omega)
    have hcell : ∀ W : World, ∀ (j : Nat) (h : j < (codeL (a :: t)).length), (W.alloc (.cells (cods a (codeGo (snd a) t)) 60)).cell? ⟨W.heap.size, j, none⟩ = some (B8 (codeL (a :: t))[j]) := by
      intro W j h
      rw [heap_cellC (heap_alloc_new W _) j, HC.out]
      simp [List.getElem?_eq_getElem h]
    simp only [cods, B8] at hco hcell
    generalize (codeGo (snd a) t).getD 0 48 = x1 at hco hcell
    generalize (codeGo (snd a) t).getD 1 48 = x2 at hco hcell
    generalize (codeGo (snd a) t).getD 2 48 = x3 at hco hcell
    generalize a.toNat - 32 = n0 at hco hcell
    by_cases hk0 : k = []
    · subst hk0
      have HA : Hid (appC [] (a :: t) = [] ++ codeL (a :: t)) := by show appC _ _ = _; unfold appC; rw [if_neg (by simp), if_pos rfl]; rfl
      subst hv hu
      have hlI : ((a :: t).length : Int) = (t.length : Int) + 1 := by simp
      have hB2 := hB
      go_enter Tryz.func17, Tryz.ntmps17
      go_wp2_with (first
        | (go_at_call 27; refine (hco _ h2.b).mono ?_; rintro e w2 ⟨rfl, hf2⟩; have t2 := h2.below hf2; have b2 : B ≤ w2.heap.size := Nat.le_trans hB hf2.size)
        | (at_builtin; refine wpList_push2 rfl _ _ rfl B _ _ (a :: t) [] (codeL (a :: t)) (t2.swap.alloc _) (by simp; omega) rfl w2.heap.size 4 4 rfl hcl.symm (hcell w2) (by rw [hcl]; simp) ?_; intro v3 w3 t3 f3))
      go_ret
      exact ⟨_, rfl, by rw [HA.out]; exact t3.swap, (hf2.mono hB).trans (((Fr.refl _ _).alloc b2 _).trans f3)⟩
    · have HA : Hid (appC k (a :: t) = (k ++ [32]) ++ codeL (a :: t)) := by show appC _ _ = _; unfold appC; rw [if_neg (by simp), if_neg hk0]; simp
      have hkl : 0 < k.length := List.length_pos_iff.2 hk0
      subst hv hu
      have hkI : (0 : Int) < (k.length : Int) := by omega
      have hlI : ((a :: t).length : Int) = (t.length : Int) + 1 := by simp
      have mk : True := trivial
      go_enter Tryz.func17, Tryz.ntmps17
      go_wp2_with (first
        | (at_builtin; clear mk; refine wpList_push2 rfl _ _ rfl B _ _ (a :: t) k [32] (h2.swap.alloc _) (by simp; omega) rfl w.heap.size 1 1 rfl rfl (one_cell w 32) (by simp; omega) ?_; intro v3 w3 t3 f3; have b3 : B ≤ w3.heap.size := Nat.le_trans hB (by have := f3.size; simp at this; omega))
        | (go_at_call 27; refine (hco _ t3.a).mono ?_; rintro e w2 ⟨rfl, hf2⟩; have t2 := t3.below hf2; have b2 : B ≤ w2.heap.size := Nat.le_trans b3 hf2.size)
        | (at_builtin; refine wpList_push2 rfl _ _ rfl B _ _ (a :: t) (k ++ [32]) (codeL (a :: t)) (t2.alloc _) (by simp; omega) rfl w2.heap.size 4 4 rfl hcl.symm (hcell w2) (by rw [hcl]; simp; omega) ?_; intro v4 w4 t4 f4))
      go_ret
      exact ⟨_, rfl, by rw [HA.out]; exact t4.swap, (((Fr.refl _ _).alloc hB _).trans f3).trans ((hf2.mono b3).trans (((Fr.refl _ _).alloc b2 _).trans f4))⟩
end Go.Proofs.YtimjmecogbkgfabGreatDoor

/-
  Sound: of each row of letters its code.
-/
namespace Go.Proofs.YtimjmecogbkgfabGreatDoor
open Go.RowKit
open Go.Lib (decodeL)

theorem Two.cut {w : World} {B : Nat} {u : Value} {k l : List UInt8} {g n cap : Nat} (h : Two w B u (.slice (some ⟨g, 0, none⟩) n cap) k l) : Two w B u (.slice (some ⟨g, 0, none⟩) 0 cap) k [] := by
  refine ⟨h.a, ?_, fun g h1 h2 => h.ne g h1 h2⟩
  rcases h.b.2 with ⟨h1, _⟩ | ⟨g', cap', cur, h1, h2, h3, h4, h5, h6, h7⟩
  · cases h1
  · cases h1
    exact ⟨rfl, .inr ⟨g, cap, cur, rfl, h2, h3, Nat.zero_le _, h5, h6, rfl⟩⟩
theorem Two.vform {w : World} {B : Nat} {u v : Value} {k l : List UInt8} (h : Two w B u v k l) : (∃ cap g, v = .slice (some ⟨g, 0, none⟩) l.length cap ∧ cap ≤ 9223372036854775807 ∧ l.length ≤ cap) ∨ (v = .slice none 0 0 ∧ l = []) := by
  rcases h.b.2 with ⟨h1, h3⟩ | ⟨g, cap, cur, h1, _, _, h3, h4, _⟩
  · exact .inr ⟨h1, List.eq_nil_of_length_eq_zero h3⟩
  · exact .inl ⟨cap, g, h1, by unfold maxLen at h4; omega, h3⟩
theorem appC_len (k l : List UInt8) : (appC k l).length ≤ k.length + 5 * l.length := by
  unfold appC
  cases l with
  | nil => simp
  | cons a t =>
    rw [if_neg (by simp)]
    split
    · rw [codeL_len]; simp; omega
    · rw [List.length_append, List.length_cons, codeL_len]; simp; omega
theorem low_let (b : UInt8) (h : isLet b = true) : isSml (lowB b) = true := by
  unfold isLet at h
  unfold isSml lowB
  simp only [Bool.or_eq_true, Bool.and_eq_true, decide_eq_true_eq] at h
  by_cases hc : 65 ≤ b.toNat ∧ b.toNat ≤ 90
  · rw [if_pos (by simp; omega)]
    have : b.toNat + 32 < 256 := by omega
    simp [Nat.mod_eq_of_lt this]; omega
  · rw [if_neg (by simp; omega)]
    simp; omega
theorem let_ascii (b : UInt8) (h : isLet b = true) : b.toNat < 128 := by
  unfold isLet at h
  simp only [Bool.or_eq_true, Bool.and_eq_true, decide_eq_true_eq] at h
  omega

set_option maxRecDepth 100000 in
set_option maxHeartbeats 2000000 in
theorem Sound_any (w : World) (s : ByteArray) (hs : s.size ≤ 10000000000) :
    Calls Tryz.prog 7 #[.string s] w fun e w' => e = .returned (.string (str (soundL (byt s)))) ∧ Fr w.heap.size w w' := by
  go_enter Tryz.func7, Tryz.ntmps7
  go_wp2
  go_loopg [3, 4] s.size (fun n u v wr => ∃ (pos : Nat) (k l : List UInt8), pos ≤ s.size ∧ s.size - pos ≤ n ∧ k.length + 5 * l.length ≤ 5 * pos ∧ l.all isSml = true ∧ Two wr w.heap.size u v k l ∧ wr.heap[w.heap.size]? = some (.stringIter s pos) ∧ soundL (byt s) = soundGo k l ((byt s).drop pos) ∧ Fr w.heap.size w wr)
  case atStart => exact ⟨0, [], [], Nat.zero_le _, by omega, by simp, rfl, two_nil _ _, World.iter_heap w s 0, rfl, Fr.one _⟩
  case round =>
    obtain ⟨pos, k, l, hp, hn, hkl, hall, h2, hit, hsp, hfr⟩ := hrel
    have HS : Hid _ := hsp
    have HL : Hid _ := hall
    clear hsp hall
    have hBw : w.heap.size ≤ wr.heap.size := hfr.size
    by_cases hlt : pos < s.size
    · obtain ⟨m, rfl⟩ : ∃ m, gk = m + 1 := ⟨gk - 1, by omega⟩
      have HE : Hid _ := drop_one s pos hlt
      have HI : Hid _ := hit
      by_cases hlet : isLet s[pos] = true
      · have hb := let_ascii _ hlet
        have hnx := fun ty => Lib.run_next_ascii_at (P := Tryz.prog) wr w.heap.size s pos ty hit hlt hb
        have hr : rLet (s[pos].toNat : Int) = true := by rw [rLet_byte]; exact hlet
        have HX : Hid (soundL (byt s) = soundGo k (l ++ [lowB s[pos]]) ((byt s).drop (pos + 1))) := by
          show _ = _
          rw [HS.out, HE.out, soundGo, if_pos hlet]
        have HM : Hid ((l ++ [lowB s[pos]]).all isSml = true) := by
          show _ = _
          rw [List.all_append, HL.out]; simp [low_let _ hlet]
        have hlw := rLow_byte s[pos]
        have hlb := (lowB s[pos]).toNat_lt
        have h2i := h2.iterAt hit (pos + 1)
        have hii := Lib.iterAt_heap wr w.heap.size s pos (pos + 1) hit
        have hfi := hfr.iterAt (Nat.le_refl _) (Nat.le_refl _) s (pos + 1)
        have hBi : w.heap.size ≤ (wr.iterAt w.heap.size s (pos + 1)).heap.size := by rw [Lib.iterAt_size]; exact hBw
        clear hit hlet
        go_wp2_with (first
          | (go_at_call 15; refine (isLetter_any _ _).mono ?_; rintro e w2 ⟨rfl, rfl⟩; rw [hr])
          | (go_at_call 16; refine (smallLetter_any _ _ (by omega) (by omega)).mono ?_; rintro e w2 ⟨rfl, rfl⟩; rw [hlw])
          | (at_builtin; refine wpList_push2 rfl _ _ rfl w.heap.size _ _ k l [lowB s[pos]] (h2i.alloc _) (by simp; omega) rfl _ 1 1 rfl rfl (one_cell _ (lowB s[pos])) (by simp; omega) ?_; intro v3 w3 t3 f3))
        go_roundg m
        case measure => omega
        case rel => exact ⟨pos + 1, k, l ++ [lowB s[pos]], by omega, by omega, by simp; omega, HM.out, t3, f3.iter (by rw [Below.heap_alloc _ _ _ (by rw [Lib.iterAt_size]; exact (Array.getElem?_eq_some_iff.1 HI.out).1)]; exact hii), HX.out, hfi.trans (((Fr.refl _ _).alloc hBi _).trans f3)⟩
      · have hgen : ∃ r q : Nat, (∀ ty, (Instr.next (.pointer (some ⟨w.heap.size, 0, none⟩)) true ty).run Tryz.prog wr = .ok (.tuple #[.bool true, .int .i64 pos, .int .i32 r]) (wr.iterAt w.heap.size s (pos + q))) ∧ 1 ≤ q ∧ pos + q ≤ s.size ∧ r ≤ 1114111 ∧ rLet (r : Int) = false ∧ soundGo k l ((byt s).drop pos) = soundGo (appC k l) [] ((byt s).drop (pos + q)) := by
          by_cases hb : s[pos].toNat < 128
          · refine ⟨s[pos].toNat, 1, fun ty => Lib.run_next_ascii_at (P := Tryz.prog) wr w.heap.size s pos ty hit hlt hb, by omega, by omega, by omega, ?_, ?_⟩
            · rw [rLet_byte]; simpa using hlet
            · rw [HE.out, soundGo, if_neg hlet]
          · refine ⟨(Utf8.decode s pos).1, (Utf8.decode s pos).2, fun ty => Lib.run_next_any_at (P := Tryz.prog) wr w.heap.size s pos ty hit hlt, ?_, ?_, ?_, ?_, ?_⟩
            · rw [dec_byt]; exact Lib.decodeL_width _
            · rw [dec_byt, dec_width _ (by rw [HE.out]; simp)]
              have := stp_drop s pos hlt
              unfold stp at this
              omega
            · rw [dec_byt]; exact Lib.decodeL_rune _
            · rw [dec_byt]
              apply rLet_high
              rw [HE.out]
              have := rune_high s[pos] ((byt s).drop (pos + 1)) (by omega)
              omega
            · rw [dec_byt, ← List.drop_drop, HE.out, sound_char _ _ _ _ (by omega)]
        obtain ⟨r, q, hnx, q1, q2, r2, hr, hso⟩ := hgen
        have HX : Hid (soundL (byt s) = soundGo (appC k l) [] ((byt s).drop (pos + q))) := by
          show _ = _
          rw [HS.out, hso]
        have hal := appC_len k l
        have h2i := h2.iterAt hit (pos + q)
        have hii := Lib.iterAt_heap wr w.heap.size s pos (pos + q) hit
        have hfi := hfr.iterAt (Nat.le_refl _) (Nat.le_refl _) s (pos + q)
        have hBi : w.heap.size ≤ (wr.iterAt w.heap.size s (pos + q)).heap.size := by rw [Lib.iterAt_size]; exact hBw
        have hfm := h2.vform
        clear hit hlet hso h2
        rcases hfm with ⟨cap, g, rfl, hc1, hc2⟩ | ⟨rfl, rfl⟩
        · go_wp2_with (first
            | (go_at_call 15; refine (isLetter_any _ _).mono ?_; rintro e w2 ⟨rfl, rfl⟩; rw [hr])
            | (go_at_call 17; refine (appendCode_any _ w.heap.size _ _ k l h2i hBi HL.out (by omega) (by omega)).mono ?_; rintro e w3 ⟨u3, rfl, t3, f3⟩))
          go_roundg m
          case measure => omega
          case rel => exact ⟨pos + q, appC k l, [], q2, by omega, by simp; omega, rfl, t3.cut, f3.iter hii, HX.out, hfi.trans f3⟩
        · go_wp2_with (first
            | (go_at_call 15; refine (isLetter_any _ _).mono ?_; rintro e w2 ⟨rfl, rfl⟩; rw [hr])
            | (go_at_call 17; refine (appendCode_any _ w.heap.size _ _ k [] h2i hBi rfl (by omega) (by simp)).mono ?_; rintro e w3 ⟨u3, rfl, t3, f3⟩))
          go_roundg m
          case measure => omega
          case rel => exact ⟨pos + q, appC k [], [], q2, by omega, by simp at hal hkl ⊢; omega, rfl, t3, f3.iter hii, HX.out, hfi.trans f3⟩
    · have hnx := fun ty => Lib.run_next_end_at (P := Tryz.prog) wr w.heap.size s pos ty hit hlt
      have HX : Hid (soundL (byt s) = appC k l) := by
        show _ = _
        rw [HS.out, drop_end s pos hlt, soundGo]
      have hal := appC_len k l
      clear hit
      go_wp2_with (go_at_call 17; refine (appendCode_any _ w.heap.size _ _ k l h2 hBw HL.out (by omega) (by omega)).mono ?_; rintro e w3 ⟨u3, rfl, t3, f3⟩; have hcv := t3.a.conv)
      go_ret
      exact ⟨ret_s (by rw [HX.out]), hfr.trans f3⟩
end Go.Proofs.YtimjmecogbkgfabGreatDoor
