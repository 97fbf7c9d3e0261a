/-
  Words: a letter, and behind it letters, digits and -; texts with their letters small.
-/
import Derived.Test.YtbioickfookjeaaGreatDoorPhone
namespace Go.Proofs.YtbioickfookjeaaGreatDoor
open Go.RowKit
open Go.Lib (decodeL)

def wdB (first : Bool) (b : UInt8) : Bool := isLet b || (!first && (isDig b || b == 45))
def wordGo : Bool → List UInt8 → Bool
  | _, [] => true
  | f, b :: t => wdB f b && wordGo false t
theorem wordGo_all (l : List UInt8) : wordGo false l = l.all (fun b => isLet b || isDig b || b == 45) := by
  induction l with
  | nil => rfl
  | cons b t ih => rw [wordGo, ih, List.all_cons]; unfold wdB; simp [Bool.or_assoc]
theorem word_eq (l : List UInt8) : wordB l = (wordGo true l && !l.isEmpty) := by
  cases l with
  | nil => rfl
  | cons a t => rw [wordB, wordGo, wordGo_all]; unfold wdB; simp
theorem wd_ascii (f : Bool) (b : UInt8) (h : wdB f b = true) : b.toNat < 128 := by
  cases f
  · exact all256R (p := fun b => wdB false b = true → b.toNat < 128) (by decide +kernel) b h
  · exact all256R (p := fun b => wdB true b = true → b.toNat < 128) (by decide +kernel) b h
set_option maxRecDepth 100000 in
set_option maxHeartbeats 2000000 in
theorem isWord_any (w : World) (s : ByteArray) (hs : s.size ≤ 140737488355328) :
    Calls Tryz.prog 243 #[.string s] w fun e w' => e = .returned (.bool (wordB (byt s))) ∧ Fr w.heap.size w w' := by
  rw [word_eq]
  obtain ⟨A, hA⟩ : ∃ A, Hid (A = wordGo true (byt s)) := ⟨wordGo true (byt s), rfl⟩
  have hem : s.toList.isEmpty = (byt s).isEmpty := by rw [toList_byt]
  rw [← hA.out, ← hem]
  clear hem
  go_enter Tryz.func243, Tryz.ntmps243
  go_wp2
  go_loopg [3, 4] s.size (fun n u v wr => ∃ pos : Nat, pos ≤ s.size ∧ s.size - pos ≤ n ∧ wr.heap[w.heap.size]? = some (.stringIter s pos) ∧ wordGo true (byt s) = wordGo (decide (pos = 0)) ((byt s).drop pos) ∧ Fr w.heap.size w wr)
  case atStart => exact ⟨0, Nat.zero_le _, by omega, World.iter_heap w s 0, rfl, Fr.one _⟩
  case round =>
    obtain ⟨pos, hp, hn, hit, hwd, hfr⟩ := hrel
    have HW : Hid _ := hwd
    clear hwd
    by_cases hlt : pos < s.size
    · obtain ⟨m, rfl⟩ : ∃ m, gk = m + 1 := ⟨gk - 1, by omega⟩
      have HE : Hid _ := drop_one s pos hlt
      have np : ((pos : Int) == 0) = decide (pos = 0) := by
        by_cases h : pos = 0
        · subst h; rfl
        · rw [decide_eq_false h]; simp only [beq_eq_false_iff_ne, ne_eq]; omega
      generalize decide (pos = 0) = f at *
      cases hok : wdB f s[pos] with
      | true =>
        have hb := wd_ascii _ _ hok
        have hnx := fun ty => Lib.run_next_ascii_at (P := Tryz.prog) wr w.heap.size s pos ty hit hlt hb
        have hii := Lib.iterAt_heap wr w.heap.size s pos (pos + 1) hit
        have hfi := hfr.iterAt (Nat.le_refl _) (Nat.le_refl _) s (pos + 1)
        have HN : Hid (wordGo true (byt s) = wordGo (decide (pos + 1 = 0)) ((byt s).drop (pos + 1))) := by
          show _ = _
          rw [HW.out, HE.out, wordGo, hok, Bool.true_and, decide_eq_false (by omega)]
        have hrl : rLet (s[pos].toNat : Int) = isLet s[pos] := rLet_byte _
        have hrd : rDig (s[pos].toNat : Int) = isDig s[pos] := rDig_byte _
        have hor : isLet s[pos] = true ∨ (isLet s[pos] = false ∧ f = false ∧ isDig s[pos] = true) ∨ (isLet s[pos] = false ∧ f = false ∧ isDig s[pos] = false ∧ s[pos] = 45) := by
          unfold wdB at hok
          revert hok
          cases isLet s[pos] <;> cases f <;> cases isDig s[pos] <;> simp
        clear hit hok
        rcases hor with e1 | ⟨e1, rfl, e2⟩ | ⟨e1, rfl, e2, e3⟩
        · rw [e1] at hrl
          go_wp2_with (first
            | (go_at_call 150; refine (isLetter_any _ _).mono ?_; rintro e w2 ⟨rfl, rfl⟩; rw [hrl])
            | (go_at_call 278; refine (isDigit_any _ _).mono ?_; rintro e w2 ⟨rfl, rfl⟩; rw [hrd]))
          go_roundg m
          case measure => omega
          case rel => exact ⟨pos + 1, by omega, by omega, hii, HN.out, hfi⟩
        · rw [e1] at hrl
          rw [e2] at hrd
          go_wp2_with (first
            | (go_at_call 150; refine (isLetter_any _ _).mono ?_; rintro e w2 ⟨rfl, rfl⟩; rw [hrl])
            | (go_at_call 278; refine (isDigit_any _ _).mono ?_; rintro e w2 ⟨rfl, rfl⟩; rw [hrd]))
          go_roundg m
          case measure => omega
          case rel => exact ⟨pos + 1, by omega, by omega, hii, HN.out, hfi⟩
        · rw [e1] at hrl
          rw [e2] at hrd
          have n3 : ((s[pos].toNat : Int) != 45) = false := by rw [e3]; rfl
          clear e3
          go_wp2_with (first
            | (go_at_call 150; refine (isLetter_any _ _).mono ?_; rintro e w2 ⟨rfl, rfl⟩; rw [hrl])
            | (go_at_call 278; refine (isDigit_any _ _).mono ?_; rintro e w2 ⟨rfl, rfl⟩; rw [hrd]))
          go_roundg m
          case measure => omega
          case rel => exact ⟨pos + 1, by omega, by omega, hii, HN.out, hfi⟩
      | false =>
        have HB : Hid (A = false) := by
          show A = false
          rw [hA.out, HW.out, HE.out, wordGo, hok]; rfl
        have hgen : ∃ r q : Nat, (∀ ty, (Instr.next (.pointer (some ⟨w.heap.size, 0, none⟩)) true ty).run Tryz.prog wr = .ok (.tuple #[.bool true, .int .i64 pos, .int .i32 r]) (wr.iterAt w.heap.size s (pos + q))) ∧ rLet (r : Int) = false ∧ (f = true ∨ (f = false ∧ rDig (r : Int) = false ∧ ((r : Int) != 45) = true)) := by
          by_cases hb : s[pos].toNat < 128
          · refine ⟨s[pos].toNat, 1, fun ty => Lib.run_next_ascii_at (P := Tryz.prog) wr w.heap.size s pos ty hit hlt hb, ?_, ?_⟩
            · rw [rLet_byte]
              unfold wdB at hok
              revert hok
              cases isLet s[pos] <;> simp
            · cases f
              · right
                rw [rDig_byte]
                unfold wdB at hok
                simp only [Bool.or_eq_false_iff, Bool.not_false, Bool.true_and] at hok
                refine ⟨rfl, hok.2.1, ?_⟩
                simp only [bne_iff_ne, ne_eq]
                intro e
                have : s[pos] = 45 := UInt8.toNat_inj.1 (by show s[pos].toNat = 45; omega)
                rw [this] at hok
                simp at hok
              · left; rfl
          · have hrh : 128 ≤ (decodeL ((byt s).drop pos)).1 := by
              rw [HE.out]
              exact rune_high s[pos] ((byt s).drop (pos + 1)) (by omega)
            refine ⟨(Utf8.decode s pos).1, (Utf8.decode s pos).2, fun ty => Lib.run_next_any_at (P := Tryz.prog) wr w.heap.size s pos ty hit hlt, ?_, ?_⟩
            · rw [dec_byt]; exact rLet_high _ (by omega)
            · cases f
              · right
                rw [dec_byt]
                refine ⟨rfl, by unfold rDig; simp; omega, by simp only [bne_iff_ne, ne_eq]; omega⟩
              · left; rfl
        obtain ⟨r, q, hnx, hrl, hcs⟩ := hgen
        have hfi := hfr.iterAt (Nat.le_refl _) (Nat.le_refl _) s (pos + q)
        clear hit hok hn
        rcases hcs with rfl | ⟨rfl, hrd, n3⟩
        · go_wp2_with (first
            | (go_at_call 150; refine (isLetter_any _ _).mono ?_; rintro e w2 ⟨rfl, rfl⟩; rw [hrl]))
          go_ret
          exact ⟨by rw [HB.out]; rfl, hfi⟩
        · go_wp2_with (first
            | (go_at_call 150; refine (isLetter_any _ _).mono ?_; rintro e w2 ⟨rfl, rfl⟩; rw [hrl])
            | (go_at_call 278; refine (isDigit_any _ _).mono ?_; rintro e w2 ⟨rfl, rfl⟩; rw [hrd]))
          go_ret
          exact ⟨by rw [HB.out]; rfl, hfi⟩
    · have hnx := fun ty => Lib.run_next_end_at (P := Tryz.prog) wr w.heap.size s pos ty hit hlt
      have HB : Hid (A = true) := by
        show A = true
        rw [hA.out, HW.out, drop_end s pos hlt, wordGo]
      go_wp2
      go_ret
      exact ⟨ret_b (by rw [HB.out, Bool.true_and]), hfr⟩

set_option maxRecDepth 100000 in
set_option maxHeartbeats 2000000 in
theorem smallLetters_any (w : World) (s : ByteArray) (hs : s.size ≤ 65536) (ha : ∀ i (h : i < s.size), s[i].toNat < 128) :
    Calls Tryz.prog 245 #[.string s] w fun e w' => e = .returned (.string (str ((byt s).map lowB))) ∧ Fr w.heap.size w w' := by
  go_enter Tryz.func245, Tryz.ntmps245
  go_wp2_with (first
    | (at_make; refine wpList_make8 rfl _ _ rfl _ s.size rfl rfl rfl (by omega) ?_))
  intro v1 w1 hown1 hfr1
  have hB0 : w.heap.size ≤ w1.heap.size := hfr1.size
  go_wp2
  go_loopg [3, 5] s.size (fun n v x wr => ∃ pos : Nat, pos ≤ s.size ∧ s.size - pos ≤ n ∧ Own wr w.heap.size v (((byt s).take pos).map lowB) ∧ wr.heap[w1.heap.size]? = some (.stringIter s pos) ∧ Fr w.heap.size w wr)
  case atStart => exact ⟨0, Nat.zero_le _, by omega, hown1.alloc _, World.iter_heap w1 s 0, hfr1.alloc hB0 _⟩
  case round =>
    obtain ⟨pos, hp, hn, hown, hit, hfr⟩ := hrel
    clear hown1 hfr1
    by_cases hlt : pos < s.size
    · obtain ⟨m, rfl⟩ : ∃ m, gk = m + 1 := ⟨gk - 1, by omega⟩
      have hb := ha pos hlt
      have hnx := fun ty => Lib.run_next_ascii_at (P := Tryz.prog) wr w1.heap.size s pos ty hit hlt hb
      have hfi := hfr.iterAt hB0 hB0 s (pos + 1)
      have hoi := hown.iterAt hit (pos + 1)
      have hii := Lib.iterAt_heap wr w1.heap.size s pos (pos + 1) hit
      have HT : Hid (((byt s).take (pos + 1)).map lowB = ((byt s).take pos).map lowB ++ [lowB s[pos]]) := by
        show _ = _
        rw [take_snoc s pos hlt, List.map_append]; rfl
      have hBs : w.heap.size ≤ (wr.iterAt w1.heap.size s (pos + 1)).heap.size := by rw [Lib.iterAt_size]; exact hfr.size
      have hlw := rLow_byte s[pos]
      have hll := low_ascii s[pos] hb
      have hlen : (((byt s).take pos).map lowB).length ≤ 65536 := by rw [List.length_map, List.length_take]; omega
      clear hit
      go_wp2_with (first
        | (go_at_call 151; refine (smallLetter_any _ _ (by omega) (by omega)).mono ?_; rintro e w2 ⟨rfl, rfl⟩; rw [hlw])
        | (go_at_call 277; refine (AppendRune_any _ w.heap.size _ _ ((lowB s[pos]).toNat : Int) (by omega) (by omega) hoi hBs (by omega)).mono ?_; rintro e w3 ⟨v3, rfl, ho3, hf3⟩; rw [low_enc _ hll] at ho3))
      go_roundg m
      case measure => omega
      case rel => exact ⟨pos + 1, by omega, by omega, by rw [HT.out]; exact ho3, hf3.iter hii, hfi.trans hf3⟩
    · have hnx := fun ty => Lib.run_next_end_at (P := Tryz.prog) wr w1.heap.size s pos ty hit hlt
      have hcv := hown.conv
      have HT : Hid (((byt s).take pos).map lowB = (byt s).map lowB) := by
        show _ = _
        rw [take_whole s pos hlt]
      rw [HT.out] at hcv
      go_wp2
      go_ret
      exact ⟨rfl, hfr⟩
end Go.Proofs.YtbioickfookjeaaGreatDoor
