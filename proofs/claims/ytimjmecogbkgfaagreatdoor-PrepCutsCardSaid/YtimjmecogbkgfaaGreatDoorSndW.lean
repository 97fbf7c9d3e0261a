/-
  Sound: of each row of letters its code.
-/
import Derived.Test.YtimjmecogbkgfaaGreatDoorSnd
namespace Go.Proofs.YtimjmecogbkgfaaGreatDoor
open Go.RowKit
open Go.Lib (decodeL)

theorem Two.cut {w : World} {B : Nat} {u : Value} {k l : List UInt8} {g n cap : Nat} (h : Two w B u (.slice (some ⟨g, 0, none⟩) n cap) k l) : Two w B u (.slice (some ⟨g, 0, none⟩) 0 cap) k [] := by
  refine ⟨h.a, ?_, fun g h1 h2 => h.ne g h1 h2⟩
  rcases h.b.2 with ⟨h1, _⟩ | ⟨g', cap', cur, h1, h2, h3, h4, h5, h6, h7⟩
  · cases h1
  · cases h1
    exact ⟨rfl, .inr ⟨g, cap, cur, rfl, h2, h3, Nat.zero_le _, h5, h6, rfl⟩⟩
theorem Two.vform {w : World} {B : Nat} {u v : Value} {k l : List UInt8} (h : Two w B u v k l) : (∃ cap g, v = .slice (some ⟨g, 0, none⟩) l.length cap ∧ cap ≤ 9223372036854775807 ∧ l.length ≤ cap) ∨ (v = .slice none 0 0 ∧ l = []) := by
  rcases h.b.2 with ⟨h1, h3⟩ | ⟨g, cap, cur, h1, _, _, h3, h4, _⟩
  · exact .inr ⟨h1, List.eq_nil_of_length_eq_zero h3⟩
  · exact .inl ⟨cap, g, h1, by unfold maxLen at h4; omega, h3⟩
theorem appC_len (k l : List UInt8) : (appC k l).length ≤ k.length + 5 * l.length := by
  unfold appC
  cases l with
  | nil => simp
  | cons a t =>
    rw [if_neg (by simp)]
    split
    · rw [codeL_len]; simp; omega
    · rw [List.length_append, List.length_cons, codeL_len]; simp; omega
theorem low_let (b : UInt8) (h : isLet b = true) : isSml (lowB b) = true := by
  unfold isLet at h
  unfold isSml lowB
  simp only [Bool.or_eq_true, Bool.and_eq_true, decide_eq_true_eq] at h
  by_cases hc : 65 ≤ b.toNat ∧ b.toNat ≤ 90
  · rw [if_pos (by simp; omega)]
    have : b.toNat + 32 < 256 := by omega
    simp [Nat.mod_eq_of_lt this]; omega
  · rw [if_neg (by simp; omega)]
    simp; omega
theorem let_ascii (b : UInt8) (h : isLet b = true) : b.toNat < 128 := by
  unfold isLet at h
  simp only [Bool.or_eq_true, Bool.and_eq_true, decide_eq_true_eq] at h
  omega

set_option maxRecDepth 100000 in
set_option maxHeartbeats 2000000 in
theorem Sound_any (w : World) (s : ByteArray) (hs : s.size ≤ 10000000000) :
    Calls Tryz.prog 30 #[.string s] w fun e w' => e = .returned (.string (str (soundL (byt s)))) ∧ Fr w.heap.size w w' := by
  go_enter Tryz.func30, Tryz.ntmps30
  go_wp2
  go_loopg [3, 4] s.size (fun n u v wr => ∃ (pos : Nat) (k l : List UInt8), pos ≤ s.size ∧ s.size - pos ≤ n ∧ k.length + 5 * l.length ≤ 5 * pos ∧ l.all isSml = true ∧ Two wr w.heap.size u v k l ∧ wr.heap[w.heap.size]? = some (.stringIter s pos) ∧ soundL (byt s) = soundGo k l ((byt s).drop pos) ∧ Fr w.heap.size w wr)
  case atStart => exact ⟨0, [], [], Nat.zero_le _, by omega, by simp, rfl, two_nil _ _, World.iter_heap w s 0, rfl, Fr.one _⟩
  case round =>
    obtain ⟨pos, k, l, hp, hn, hkl, hall, h2, hit, hsp, hfr⟩ := hrel
    have HS : Hid _ := hsp
    have HL : Hid _ := hall
    clear hsp hall
    have hBw : w.heap.size ≤ wr.heap.size := hfr.size
    by_cases hlt : pos < s.size
    · obtain ⟨m, rfl⟩ : ∃ m, gk = m + 1 := ⟨gk - 1, by omega⟩
      have HE : Hid _ := drop_one s pos hlt
      have HI : Hid _ := hit
      by_cases hlet : isLet s[pos] = true
      · have hb := let_ascii _ hlet
        have hnx := fun ty => Lib.run_next_ascii_at (P := Tryz.prog) wr w.heap.size s pos ty hit hlt hb
        have hr : rLet (s[pos].toNat : Int) = true := by rw [rLet_byte]; exact hlet
        have HX : Hid (soundL (byt s) = soundGo k (l ++ [lowB s[pos]]) ((byt s).drop (pos + 1))) := by
          show _ = _
          rw [HS.out, HE.out, soundGo, if_pos hlet]
        have HM : Hid ((l ++ [lowB s[pos]]).all isSml = true) := by
          show _ = _
          rw [List.all_append, HL.out]; simp [low_let _ hlet]
        have hlw := rLow_byte s[pos]
        have hlb := (lowB s[pos]).toNat_lt
        have h2i := h2.iterAt hit (pos + 1)
        have hii := Lib.iterAt_heap wr w.heap.size s pos (pos + 1) hit
        have hfi := hfr.iterAt (Nat.le_refl _) (Nat.le_refl _) s (pos + 1)
        have hBi : w.heap.size ≤ (wr.iterAt w.heap.size s (pos + 1)).heap.size := by rw [Lib.iterAt_size]; exact hBw
        clear hit hlet
        go_wp2_with (first
          | (go_at_call 57; refine (isLetter_any _ _).mono ?_; rintro e w2 ⟨rfl, rfl⟩; rw [hr])
          | (go_at_call 58; refine (smallLetter_any _ _ (by omega) (by omega)).mono ?_; rintro e w2 ⟨rfl, rfl⟩; rw [hlw])
          | (at_builtin; refine wpList_push2 rfl _ _ rfl w.heap.size _ _ k l [lowB s[pos]] (h2i.alloc _) (by simp; omega) rfl _ 1 1 rfl rfl (one_cell _ (lowB s[pos])) (by simp; omega) ?_; intro v3 w3 t3 f3))
        go_roundg m
        case measure => omega
        case rel => exact ⟨pos + 1, k, l ++ [lowB s[pos]], by omega, by omega, by simp; omega, HM.out, t3, f3.iter (by rw [Below.heap_alloc _ _ _ (by rw [Lib.iterAt_size]; exact (Array.getElem?_eq_some_iff.1 HI.out).1)]; exact hii), HX.out, hfi.trans (((Fr.refl _ _).alloc hBi _).trans f3)⟩
      · have hgen : ∃ r q : Nat, (∀ ty, (Instr.next (.pointer (some ⟨w.heap.size, 0, none⟩)) true ty).run Tryz.prog wr = .ok (.tuple #[.bool true, .int .i64 pos, .int .i32 r]) (wr.iterAt w.heap.size s (pos + q))) ∧ 1 ≤ q ∧ pos + q ≤ s.size ∧ r ≤ 1114111 ∧ rLet (r : Int) = false ∧ soundGo k l ((byt s).drop pos) = soundGo (appC k l) [] ((byt s).drop (pos + q)) := by
          by_cases hb : s[pos].toNat < 128
          · refine ⟨s[pos].toNat, 1, fun ty => Lib.run_next_ascii_at (P := Tryz.prog) wr w.heap.size s pos ty hit hlt hb, by omega, by omega, by omega, ?_, ?_⟩
            · rw [rLet_byte]; simpa using hlet
            · rw [HE.out, soundGo, if_neg hlet]
          · refine ⟨(Utf8.decode s pos).1, (Utf8.decode s pos).2, fun ty => Lib.run_next_any_at (P := Tryz.prog) wr w.heap.size s pos ty hit hlt, ?_, ?_, ?_, ?_, ?_⟩
            · rw [dec_byt]; exact Lib.decodeL_width _
            · rw [dec_byt, dec_width _ (by rw [HE.out]; simp)]
              have := stp_drop s pos hlt
              unfold stp at this
              omega
            · rw [dec_byt]; exact Lib.decodeL_rune _
            · rw [dec_byt]
              apply rLet_high
              rw [HE.out]
              have := rune_high s[pos] ((byt s).drop (pos + 1)) (by omega)
              omega
            · rw [dec_byt, ← List.drop_drop, HE.out, sound_char _ _ _ _ (by omega)]
        obtain ⟨r, q, hnx, q1, q2, r2, hr, hso⟩ := hgen
        have HX : Hid (soundL (byt s) = soundGo (appC k l) [] ((byt s).drop (pos + q))) := by
          show _ = _
          rw [HS.out, hso]
        have hal := appC_len k l
        have h2i := h2.iterAt hit (pos + q)
        have hii := Lib.iterAt_heap wr w.heap.size s pos (pos + q) hit
        have hfi := hfr.iterAt (Nat.le_refl _) (Nat.le_refl _) s (pos + q)
        have hBi : w.heap.size ≤ (wr.iterAt w.heap.size s (pos + q)).heap.size := by rw [Lib.iterAt_size]; exact hBw
        have hfm := h2.vform
        clear hit hlet hso h2
        rcases hfm with ⟨cap, g, rfl, hc1, hc2⟩ | ⟨rfl, rfl⟩
        · go_wp2_with (first
            | (go_at_call 57; refine (isLetter_any _ _).mono ?_; rintro e w2 ⟨rfl, rfl⟩; rw [hr])
            | (go_at_call 59; refine (appendCode_any _ w.heap.size _ _ k l h2i hBi HL.out (by omega) (by omega)).mono ?_; rintro e w3 ⟨u3, rfl, t3, f3⟩))
          go_roundg m
          case measure => omega
          case rel => exact ⟨pos + q, appC k l, [], q2, by omega, by simp; omega, rfl, t3.cut, f3.iter hii, HX.out, hfi.trans f3⟩
        · go_wp2_with (first
            | (go_at_call 57; refine (isLetter_any _ _).mono ?_; rintro e w2 ⟨rfl, rfl⟩; rw [hr])
            | (go_at_call 59; refine (appendCode_any _ w.heap.size _ _ k [] h2i hBi rfl (by omega) (by simp)).mono ?_; rintro e w3 ⟨u3, rfl, t3, f3⟩))
          go_roundg m
          case measure => omega
          case rel => exact ⟨pos + q, appC k [], [], q2, by omega, by simp at hal hkl ⊢; omega, rfl, t3, f3.iter hii, HX.out, hfi.trans f3⟩
    · have hnx := fun ty => Lib.run_next_end_at (P := Tryz.prog) wr w.heap.size s pos ty hit hlt
      have HX : Hid (soundL (byt s) = appC k l) := by
        show _ = _
        rw [HS.out, drop_end s pos hlt, soundGo]
      have hal := appC_len k l
      clear hit
      go_wp2_with (go_at_call 59; refine (appendCode_any _ w.heap.size _ _ k l h2 hBw HL.out (by omega) (by omega)).mono ?_; rintro e w3 ⟨u3, rfl, t3, f3⟩; have hcv := t3.a.conv)
      go_ret
      exact ⟨ret_s (by rw [HX.out]), hfr.trans f3⟩
end Go.Proofs.YtimjmecogbkgfaaGreatDoor
