/-
  The form of texts in which runs of blanks don't count.
-/
import Derived.Test.YtbioickfookjeaaGreatDoorStrs
import Derived.Test.YtbioickfookjeaaGreatDoorStr
import Derived.Test.YtbioickfookjeaaGreatDoorPv
namespace Go.Proofs.YtbioickfookjeaaGreatDoor
open Go.RowKit
open Go.Lib (decodeL)

theorem cell_new (w : World) (v : Value) (t : TypeId) : (w.alloc (.cells #[v] t)).cell? ⟨w.heap.size, 0, none⟩ = some v := by
  unfold World.cell?; rw [heap_alloc_new]; rfl
theorem low_enc (b : UInt8) (h : b.toNat < 128) : Lib.encodeRune (b.toNat : Int) = [b] := by
  unfold Lib.encodeRune
  rw [Lib.encodeRuneZ_one (by omega) (by omega)]
  simp
theorem join_len (sm : Bool) : ∀ (l : List UInt8) (p : Bool), (joinL sm p l).length ≤ l.length := by
  intro l
  induction l with
  | nil => intro p; exact Nat.le_refl _
  | cons a t ih =>
    intro p
    rw [joinL]
    split
    · have := ih true; simp; omega
    · have := ih (a == 32); simp; omega

set_option maxRecDepth 100000 in
set_option maxHeartbeats 2000000 in
theorem joined_any (w : World) (sm : Bool) (s : ByteArray) (hs : s.size ≤ 65536) (hv : validL (byt s) = true) :
    Calls Tryz.prog 235 #[.agg #[.bool sm], .string s] w fun e w' => e = .returned (.string (str (joinL sm false (byt s)))) ∧ Fr w.heap.size w w' := by
  go_enter Tryz.func235, Tryz.ntmps235
  go_wp2_with (first
    | (at_make; refine wpList_make8 rfl _ _ rfl _ s.size rfl rfl rfl (by omega) ?_))
  intro v1 w1 hown1 hfr1
  have hB0 : w.heap.size + 1 ≤ w1.heap.size := by have := hfr1.size; simp at this; exact this
  have hcb : ∀ wr : World, Fr (w.heap.size + 1) (w.alloc (Obj.cells #[Value.bool sm] 229)) wr → wr.cell? ⟨w.heap.size, 0, none⟩ = some (Value.bool sm) := by
    intro wr h
    rw [h.1.cell (p := ⟨w.heap.size, 0, none⟩) (by show w.heap.size < _; omega)]
    exact cell_new w _ _
  have hfin : ∀ wr : World, Fr (w.heap.size + 1) (w.alloc (Obj.cells #[Value.bool sm] 229)) wr → Fr w.heap.size w wr := fun wr h => ((Fr.refl _ _).alloc (Nat.le_refl _) _).trans (h.mono (by omega))
  go_wp2
  go_loopg [5, 6] s.size (fun n v x wr => ∃ (pos : Nat) (p : List UInt8) (a : Int), pos ≤ s.size ∧ s.size - pos ≤ n ∧ p.length ≤ pos ∧ x = .int .i32 a ∧ Own wr (w.heap.size + 1) v p ∧ wr.heap[w1.heap.size]? = some (.stringIter s pos) ∧ joinL sm false (byt s) = p ++ joinL sm (decide (a = 32)) ((byt s).drop pos) ∧ validL ((byt s).drop pos) = true ∧ Fr (w.heap.size + 1) (w.alloc (Obj.cells #[Value.bool sm] 229)) wr)
  case atStart => exact ⟨0, [], 0, Nat.zero_le _, by omega, Nat.le_refl _, rfl, hown1.alloc _, World.iter_heap w1 s 0, rfl, hv, hfr1.alloc hB0 _⟩
  case round =>
    obtain ⟨pos, p, a, hp, hn, hpl, rfl, hown, hit, hsp, hvd, hfr⟩ := hrel
    have HS : Hid _ := hsp
    have HV : Hid _ := hvd
    clear hsp hvd hown1 hfr1
    by_cases hlt : pos < s.size
    · obtain ⟨m, rfl⟩ : ∃ m, gk = m + 1 := ⟨gk - 1, by omega⟩
      have HE : Hid _ := drop_one s pos hlt
      have HI : Hid _ := hit
      have hIT : w.heap.size + 1 ≤ w1.heap.size := hB0
      have hIT2 : (w.alloc (Obj.cells #[Value.bool sm] 229)).heap.size ≤ w1.heap.size := by simp; exact hB0
      by_cases hb : s[pos].toNat < 128
      · have hnx := fun ty => Lib.run_next_ascii_at (P := Tryz.prog) wr w1.heap.size s pos ty hit hlt hb
        have hfi := hfr.iterAt hIT hIT2 s (pos + 1)
        have hci := hcb _ hfi
        have hoi := hown.iterAt hit (pos + 1)
        have hii := Lib.iterAt_heap wr w1.heap.size s pos (pos + 1) hit
        have HV2 : Hid (validL ((byt s).drop (pos + 1)) = true) := by
          show validL ((byt s).drop (pos + 1)) = true
          have := HV.out
          rw [HE.out, validL_ascii _ _ hb] at this
          exact this
        have hBs : w.heap.size + 1 ≤ (wr.iterAt w1.heap.size s (pos + 1)).heap.size := by
          rw [Lib.iterAt_size]; have := hfr.size; simp at this; exact this
        clear hit
        by_cases hsk : s[pos] = 32 ∧ a = 32
        · obtain ⟨h1, rfl⟩ := hsk
          have h1' : ((s[pos].toNat : Int) == 32) = true := by rw [h1]; rfl
          have HX : Hid (joinL sm false (byt s) = p ++ joinL sm (decide ((32 : Int) = 32)) ((byt s).drop (pos + 1))) := by
            show joinL sm false (byt s) = _
            rw [HS.out, HE.out, joinL, h1]; rfl
          clear h1
          go_wp2
          go_roundg m
          case measure => omega
          case rel => exact ⟨pos + 1, p, 32, by omega, by omega, by omega, rfl, hoi, hii, HX.out, HV2.out, hfi⟩
        · have hsk' : ((s[pos].toNat : Int) == 32) = false ∨ (((s[pos].toNat : Int) == 32) = true ∧ (a == 32) = false) := by
            by_cases h1 : s[pos] = 32
            · right; exact ⟨by rw [h1]; rfl, by simp; exact fun e => hsk ⟨h1, e⟩⟩
            · left; simp
              intro e
              exact h1 (UInt8.toNat_inj.1 (by show s[pos].toNat = 32; omega))
          have HX : Hid (joinL sm false (byt s) = (p ++ [smB sm s[pos]]) ++ joinL sm (decide ((s[pos].toNat : Int) = 32)) ((byt s).drop (pos + 1))) := by
            show joinL sm false (byt s) = _
            rw [HS.out, HE.out, joinL]
            have e1 : (s[pos] == 32 && decide (a = 32)) = false := by
              rw [Bool.and_eq_false_iff]
              by_cases h1 : s[pos] = 32
              · right; simp; exact fun e => hsk ⟨h1, e⟩
              · left; simpa using h1
            have e2 : (s[pos] == 32) = decide ((s[pos].toNat : Int) = 32) := by
              rw [Bool.eq_iff_iff]; simp
              constructor
              · intro h; rw [h]; rfl
              · intro h; exact UInt8.toNat_inj.1 (by show s[pos].toNat = 32; omega)
            rw [e1, if_neg (by simp), e2]; simp
          have HL : Hid _ := rLow_byte s[pos]
          have HQ : Hid _ := low_ascii s[pos] hb
          have hl4 : p.length + 4 ≤ 140737488355328 := by omega
          have hrb : (s[pos].toNat : Int) < 128 := by omega
          clear hsk
          rcases hsk' with hc1 | ⟨hc1, hc2⟩
          · cases sm with
            | true =>
              go_wp2_with (first
                | (go_at_call 151; refine (smallLetter_any _ _ (by omega) (by omega)).mono ?_; rintro e w2 ⟨rfl, rfl⟩; rw [HL.out])
                | (go_at_call 277; refine (AppendRune_any _ (w.heap.size + 1) _ p ((lowB s[pos]).toNat : Int) (by omega) (by have := HQ.out; omega) hoi hBs hl4).mono ?_; rintro e w3 ⟨v3, rfl, ho3, hf3⟩; rw [low_enc _ HQ.out] at ho3))
              go_roundg m
              case measure => omega
              case rel => exact ⟨pos + 1, p ++ [lowB s[pos]], (s[pos].toNat : Int), by omega, by omega, by simp; omega, rfl, ho3, hf3.iter hii, HX.out, HV2.out, hfi.trans hf3⟩
            | false =>
              go_wp2_with (first
                | (go_at_call 277; refine (AppendRune_any _ (w.heap.size + 1) _ p (s[pos].toNat : Int) (by omega) (by omega) hoi hBs hl4).mono ?_; rintro e w3 ⟨v3, rfl, ho3, hf3⟩; rw [low_enc _ hb] at ho3))
              go_roundg m
              case measure => omega
              case rel => exact ⟨pos + 1, p ++ [s[pos]], (s[pos].toNat : Int), by omega, by omega, by simp; omega, rfl, ho3, hf3.iter hii, HX.out, HV2.out, hfi.trans hf3⟩
          · cases sm with
            | true =>
              go_wp2_with (first
                | (go_at_call 151; refine (smallLetter_any _ _ (by omega) (by omega)).mono ?_; rintro e w2 ⟨rfl, rfl⟩; rw [HL.out])
                | (go_at_call 277; refine (AppendRune_any _ (w.heap.size + 1) _ p ((lowB s[pos]).toNat : Int) (by omega) (by have := HQ.out; omega) hoi hBs hl4).mono ?_; rintro e w3 ⟨v3, rfl, ho3, hf3⟩; rw [low_enc _ HQ.out] at ho3))
              go_roundg m
              case measure => omega
              case rel => exact ⟨pos + 1, p ++ [lowB s[pos]], (s[pos].toNat : Int), by omega, by omega, by simp; omega, rfl, ho3, hf3.iter hii, HX.out, HV2.out, hfi.trans hf3⟩
            | false =>
              go_wp2_with (first
                | (go_at_call 277; refine (AppendRune_any _ (w.heap.size + 1) _ p (s[pos].toNat : Int) (by omega) (by omega) hoi hBs hl4).mono ?_; rintro e w3 ⟨v3, rfl, ho3, hf3⟩; rw [low_enc _ hb] at ho3))
              go_roundg m
              case measure => omega
              case rel => exact ⟨pos + 1, p ++ [s[pos]], (s[pos].toNat : Int), by omega, by omega, by simp; omega, rfl, ho3, hf3.iter hii, HX.out, HV2.out, hfi.trans hf3⟩
      · have hnx := fun ty => Lib.run_next_any_at (P := Tryz.prog) wr w1.heap.size s pos ty hit hlt
        have HW : Hid (wid ((byt s).drop pos) ≠ 0) := by
          show wid ((byt s).drop pos) ≠ 0
          have := HV.out
          rw [HE.out, validL_cons] at this
          rw [HE.out]
          intro e
          rw [if_pos e] at this
          cases this
        have HD : Hid ((Utf8.decode s pos).2 = wid ((byt s).drop pos)) := by
          show (Utf8.decode s pos).2 = _
          rw [dec_byt, dec_width _ (by rw [HE.out]; simp)]
          have := HW.out
          omega
        have HR : Hid (128 ≤ (Utf8.decode s pos).1 ∧ (Utf8.decode s pos).1 ≤ 1114111 ∧ Lib.encodeRune ((Utf8.decode s pos).1 : Int) = ((byt s).drop pos).take (wid ((byt s).drop pos))) := by
          show _ ∧ _
          rw [dec_byt]
          refine ⟨?_, Lib.decodeL_rune _, enc_dec _ HW.out⟩
          rw [HE.out]
          exact rune_high _ _ (by omega)
        have HX : Hid (joinL sm false (byt s) = (p ++ ((byt s).drop pos).take (wid ((byt s).drop pos))) ++ joinL sm false ((byt s).drop (pos + wid ((byt s).drop pos)))) := by
          show joinL sm false (byt s) = _
          have hw := HW.out
          rw [HS.out, List.append_assoc, ← List.drop_drop]
          rw [HE.out] at hw ⊢
          rw [join_char sm _ _ _ (by omega) hw]
        have HV2 : Hid (validL ((byt s).drop (pos + wid ((byt s).drop pos))) = true) := by
          show validL _ = true
          have hw := HW.out
          have := HV.out
          rw [← List.drop_drop]
          rw [HE.out] at hw this ⊢
          rw [validL_cons, if_neg hw] at this
          exact this
        have hst := stp_drop s pos hlt
        have hln : wid ((byt s).drop pos) ≤ s.size - pos := by unfold stp at hst; omega
        have h1 : 1 ≤ wid ((byt s).drop pos) := by have := HW.out; omega
        obtain ⟨r, hr⟩ : ∃ r : Nat, r = (Utf8.decode s pos).1 := ⟨_, rfl⟩
        obtain ⟨q, hq⟩ : ∃ q : Nat, q = (Utf8.decode s pos).2 := ⟨_, rfl⟩
        rw [← hr] at HR
        rw [← hq] at HD
        simp only [← hr, ← hq] at hnx
        have hfi := hfr.iterAt hIT hIT2 s (pos + q)
        have hci := hcb _ hfi
        have hoi := hown.iterAt hit (pos + q)
        have hii := Lib.iterAt_heap wr w1.heap.size s pos (pos + q) hit
        have hBs : w.heap.size + 1 ≤ (wr.iterAt w1.heap.size s (pos + q)).heap.size := by
          rw [Lib.iterAt_size]; have := hfr.size; simp at this; exact this
        clear hit hr hq
        have r1 := HR.out.1
        have r2 := HR.out.2.1
        have hr32 : ((r : Int) == 32) = false := by simp; omega
        have hl4 : p.length + 4 ≤ 140737488355328 := by omega
        have hlow : rLow (r : Int) = (r : Int) := rLow_high _ (by omega)
        have hlt4 : (((byt s).drop pos).take (wid ((byt s).drop pos))).length ≤ wid ((byt s).drop pos) := by rw [List.length_take]; omega
        have hd32 : decide ((r : Int) = 32) = false := by simp; omega
        have HX2 : Hid (joinL sm false (byt s) = (p ++ ((byt s).drop pos).take (wid ((byt s).drop pos))) ++ joinL sm (decide ((r : Int) = 32)) ((byt s).drop (pos + q))) := by
          show joinL sm false (byt s) = _
          rw [hd32, HD.out]; exact HX.out
        clear hd32
        cases sm with
        | true =>
          go_wp2_with (first
            | (go_at_call 151; refine (smallLetter_any _ _ (by omega) (by omega)).mono ?_; rintro e w2 ⟨rfl, rfl⟩; rw [hlow])
            | (go_at_call 277; refine (AppendRune_any _ (w.heap.size + 1) _ p (r : Int) (by omega) (by omega) hoi hBs hl4).mono ?_; rintro e w3 ⟨v3, rfl, ho3, hf3⟩; rw [HR.out.2.2] at ho3))
          go_roundg m
          case measure => omega
          case rel => exact ⟨pos + q, _, (r : Int), by rw [HD.out]; omega, by rw [HD.out]; omega, by rw [List.length_append, HD.out]; omega, rfl, ho3, hf3.iter hii, HX2.out, by rw [HD.out]; exact HV2.out, hfi.trans hf3⟩
        | false =>
          go_wp2_with (first
            | (go_at_call 277; refine (AppendRune_any _ (w.heap.size + 1) _ p (r : Int) (by omega) (by omega) hoi hBs hl4).mono ?_; rintro e w3 ⟨v3, rfl, ho3, hf3⟩; rw [HR.out.2.2] at ho3))
          go_roundg m
          case measure => omega
          case rel => exact ⟨pos + q, _, (r : Int), by rw [HD.out]; omega, by rw [HD.out]; omega, by rw [List.length_append, HD.out]; omega, rfl, ho3, hf3.iter hii, HX2.out, by rw [HD.out]; exact HV2.out, hfi.trans hf3⟩
    · have hnx := fun ty => Lib.run_next_end_at (P := Tryz.prog) wr w1.heap.size s pos ty hit hlt
      have hcv := hown.conv
      clear hit
      go_wp2
      go_ret
      refine ⟨ret_s ?_, hfin _ hfr⟩
      rw [HS.out, drop_end s pos hlt]
      simp [joinL]
end Go.Proofs.YtbioickfookjeaaGreatDoor
