/-
  The form of phones' numbers.
-/
import Derived.Test.YthifcfdbifhanaaGreatDoorIdxR
import Derived.Test.YthifcfdbifhanaaGreatDoorKeyToPst2
import Derived.Lib.TrimUEq
namespace Go.Proofs.YthifcfdbifhanaaGreatDoor
open Go.RowKit
open Go.Lib (decodeL)

/-- may it stand in a phone's number? -/
def phO (b : UInt8) : Bool := isLet b || isDig b || phS b || b == 32
def phD (b : UInt8) : Bool := !(b == 32 || b == 45)
theorem phK_eq (l : List UInt8) : phK l = if l.all phO then some ((l.filter phD).map lowB) else none := rfl
theorem ph_ascii (b : UInt8) (h : phO b = true) : b.toNat < 128 := all256R (p := fun b => phO b = true → b.toNat < 128) (by decide +kernel) b h
theorem filt_len (l : List UInt8) (k : Nat) : (((l.take k).filter phD).map lowB).length ≤ k := by
  rw [List.length_map]
  have := List.length_filter_le phD (l.take k)
  rw [List.length_take] at this
  omega
theorem decodeN_valid (n b0 b1 b2 b3 : Nat) (h0 : b0 < 256) : (Lib.decodeN n b0 b1 b2 b3).1 < 55296 ∨ (57343 < (Lib.decodeN n b0 b1 b2 b3).1 ∧ (Lib.decodeN n b0 b1 b2 b3).1 ≤ 1114111) := by
  unfold Lib.decodeN
  split
  · simp only; omega
  · split
    · split <;> (simp only; omega)
    · split
      · split
        · rename_i h; simp only; omega
        · simp only; omega
      · split
        · split
          · rename_i h; simp only; omega
          · simp only; omega
        · simp only; omega
theorem decode_valid (l : List UInt8) : ((0 : Int) ≤ ((decodeL l).1 : Int) ∧ ((decodeL l).1 : Int) < 55296) ∨ (57343 < ((decodeL l).1 : Int) ∧ ((decodeL l).1 : Int) ≤ 1114111) := by
  rw [Lib.decodeL_N]
  have := decodeN_valid l.length (l.getD 0 0).toNat (l.getD 1 0).toNat (l.getD 2 0).toNat (l.getD 3 0).toNat (UInt8.toNat_lt _)
  omega
theorem byteNb {a b : UInt8} (h : a ≠ b) : ((a.toNat : Int) == (b.toNat : Int)) = false := by
  simp only [beq_eq_false_iff_ne, ne_eq]
  intro e
  exact h (UInt8.toNat_inj.1 (by omega))
theorem one_row (b : UInt8) : (#[.int .u8 (b.toNat : Int)] : Array Value) = ([b].map B8).toArray := rfl
set_option maxRecDepth 100000 in
set_option maxHeartbeats 2000000 in
theorem phKept_any (w : World) (s : ByteArray) (hs : s.size ≤ 65536) :
    Calls Tryz.prog 199 #[.agg #[], .string s] w fun e w' => e = .returned (ans (phK (byt s))) ∧ Fr w.heap.size w w' := by
  go_enter Tryz.func199, Tryz.ntmps199
  go_wp2_with (first
    | (at_make; refine wpList_make8 rfl _ _ rfl _ s.size rfl rfl rfl (by omega) ?_))
  intro v1 w1 hown1 hfr1
  have hB0 : w.heap.size + 1 ≤ w1.heap.size := by have := hfr1.size; simp at this; exact this
  have hfin : ∀ wr : World, Fr (w.heap.size + 1) (w.alloc (Obj.cells #[] 219)) wr → Fr w.heap.size w wr := fun wr h => ((Fr.refl _ _).alloc (Nat.le_refl _) _).trans (h.mono (by omega))
  go_wp2
  go_loopg [6, 8] s.size (fun n v x wr => ∃ (pos : Nat), pos ≤ s.size ∧ s.size - pos ≤ n ∧ Own wr (w.heap.size + 1) v ((((byt s).take pos).filter phD).map lowB) ∧ wr.heap[w1.heap.size]? = some (.stringIter s pos) ∧ ((byt s).take pos).all phO = true ∧ Fr (w.heap.size + 1) (w.alloc (Obj.cells #[] 219)) wr)
  case atStart => exact ⟨0, Nat.zero_le _, by omega, hown1.alloc _, World.iter_heap w1 s 0, rfl, hfr1.alloc hB0 _⟩
  case round =>
    obtain ⟨pos, hp, hn, hown, hit, hall, hfr⟩ := hrel
    have HA : Hid _ := hall
    clear hall hown1 hfr1
    by_cases hlt : pos < s.size
    · obtain ⟨m, rfl⟩ : ∃ m, gk = m + 1 := ⟨gk - 1, by omega⟩
      have HE : Hid _ := drop_one s pos hlt
      have HI : Hid _ := hit
      have hIT2 : (w.alloc (Obj.cells #[] 219)).heap.size ≤ w1.heap.size := by simp; exact hB0
      cases hok : phO s[pos] with
      | true =>
        have hb := ph_ascii _ hok
        have hnx := fun ty => Lib.run_next_ascii_at (P := Tryz.prog) wr w1.heap.size s pos ty hit hlt hb
        have hfi := hfr.iterAt hB0 hIT2 s (pos + 1)
        have hoi := hown.iterAt hit (pos + 1)
        have hii := Lib.iterAt_heap wr w1.heap.size s pos (pos + 1) hit
        have HN : Hid _ := all_take_step s pos hlt phO HA.out hok
        have hBs : w.heap.size + 1 ≤ (wr.iterAt w1.heap.size s (pos + 1)).heap.size := by
          rw [Lib.iterAt_size]; have := hfr.size; simp at this; exact this
        clear hit
        cases hd : phD s[pos] with
        | false =>
          have HT : Hid ((((byt s).take (pos + 1)).filter phD).map lowB = (((byt s).take pos).filter phD).map lowB) := by
            show _ = _
            rw [take_snoc s pos hlt, List.filter_append]; simp [hd]
          have hc : s[pos] = 32 ∨ s[pos] = 45 := by
            unfold phD at hd
            rcases Classical.em (s[pos] = 32) with e | e
            · exact Or.inl e
            · exact Or.inr (by simpa [e] using hd)
          rcases hc with hc | hc
          · have n1 : ((s[pos].toNat : Int) == 32) = true := by rw [hc]; rfl
            clear hd hok hc
            go_wp2
            go_roundg m
            case measure => omega
            case rel => exact ⟨pos + 1, by omega, by omega, by rw [HT.out]; exact hoi, hii, HN.out, hfi⟩
          · have n1 : ((s[pos].toNat : Int) == 32) = false := by rw [hc]; rfl
            have n2 : ((s[pos].toNat : Int) == 45) = true := by rw [hc]; rfl
            clear hd hok hc
            go_wp2
            go_roundg m
            case measure => omega
            case rel => exact ⟨pos + 1, by omega, by omega, by rw [HT.out]; exact hoi, hii, HN.out, hfi⟩
        | true =>
          have HT : Hid ((((byt s).take (pos + 1)).filter phD).map lowB = (((byt s).take pos).filter phD).map lowB ++ [lowB s[pos]]) := by
            show _ = _
            rw [take_snoc s pos hlt, List.filter_append, List.map_append]; simp [hd]
          have hc : s[pos] ≠ 32 ∧ s[pos] ≠ 45 := by
            unfold phD at hd
            simpa using hd
          have n1 : ((s[pos].toNat : Int) == 32) = false := byteNb hc.1
          have n2 : ((s[pos].toNat : Int) == 45) = false := byteNb hc.2
          have hlw := rLow_byte s[pos]
          have hlb := (lowB s[pos]).toNat_lt
          have hfl := filt_len (byt s) pos
          have hrl : rLet (s[pos].toNat : Int) = isLet s[pos] := rLet_byte _
          have hrd : rDig (s[pos].toNat : Int) = isDig s[pos] := rDig_byte _
          have hcr := fun w => ContainsRune_any w (s[pos].toNat : Int) (Or.inl ⟨by omega, by omega⟩)
          have hcv : (decide ((0 : Int) ≤ (s[pos].toNat : Int) ∧ (s[pos].toNat : Int) < 128) && phS ((s[pos].toNat : Int)).toNat.toUInt8) = phS s[pos] := by
            rw [decide_eq_true (by omega), Bool.true_and]; simp
          rw [hcv] at hcr
          have hor : isLet s[pos] = true ∨ (isLet s[pos] = false ∧ isDig s[pos] = true) ∨ (isLet s[pos] = false ∧ isDig s[pos] = false ∧ phS s[pos] = true) := by
            unfold phO at hok
            have h32 : (s[pos] == 32) = false := by simpa using hc.1
            rw [h32, Bool.or_false] at hok
            revert hok
            cases isLet s[pos] <;> cases isDig s[pos] <;> cases phS s[pos] <;> simp
          clear hd hok hc hcv
          rcases hor with e1 | ⟨e1, e2⟩ | ⟨e1, e2, e3⟩
          · rw [e1] at hrl
            go_wp2_with (first
              | (go_at_call 225; refine (isLetter_any _ _).mono ?_; rintro e w2 ⟨rfl, rfl⟩; rw [hrl])
              | (go_at_call 224; refine (isDigit_any _ _).mono ?_; rintro e w2 ⟨rfl, rfl⟩; rw [hrd])
              | (go_at_call 222; refine (smallLetter_any _ _ (by omega) (by omega)).mono ?_; rintro e w2 ⟨rfl, rfl⟩; rw [hlw])
              | (at_builtin; refine wpList_push rfl _ _ rfl _ (w.heap.size + 1) _ _ [lowB s[pos]] _ hoi hBs rfl 1 1 rfl rfl (one_row (lowB s[pos])) (by simp only [List.length_singleton]; omega) ?_; intro v2 w2 ho2 hf2))
            go_wp2
            go_roundg m
            case measure => omega
            case rel => exact ⟨pos + 1, by omega, by omega, by rw [HT.out]; exact ho2, hf2.iter hii, HN.out, hfi.trans hf2⟩
          · rw [e1] at hrl
            rw [e2] at hrd
            go_wp2_with (first
              | (go_at_call 225; refine (isLetter_any _ _).mono ?_; rintro e w2 ⟨rfl, rfl⟩; rw [hrl])
              | (go_at_call 224; refine (isDigit_any _ _).mono ?_; rintro e w2 ⟨rfl, rfl⟩; rw [hrd])
              | (go_at_call 222; refine (smallLetter_any _ _ (by omega) (by omega)).mono ?_; rintro e w2 ⟨rfl, rfl⟩; rw [hlw])
              | (at_builtin; refine wpList_push rfl _ _ rfl _ (w.heap.size + 1) _ _ [lowB s[pos]] _ hoi hBs rfl 1 1 rfl rfl (one_row (lowB s[pos])) (by simp only [List.length_singleton]; omega) ?_; intro v2 w2 ho2 hf2))
            go_wp2
            go_roundg m
            case measure => omega
            case rel => exact ⟨pos + 1, by omega, by omega, by rw [HT.out]; exact ho2, hf2.iter hii, HN.out, hfi.trans hf2⟩
          · rw [e1] at hrl
            rw [e2] at hrd
            rw [e3] at hcr
            go_wp2_with (first
              | (go_at_call 225; refine (isLetter_any _ _).mono ?_; rintro e w2 ⟨rfl, rfl⟩; rw [hrl])
              | (go_at_call 224; refine (isDigit_any _ _).mono ?_; rintro e w2 ⟨rfl, rfl⟩; rw [hrd])
              | (go_at_call 226; refine (hcr _).mono ?_; rintro e w3 ⟨rfl, hf3⟩; have ho3 := hoi.below hf3.1; have hB3 : w.heap.size + 1 ≤ w3.heap.size := Nat.le_trans hBs hf3.size; have hi3 := (hf3.1.block _ (Array.getElem?_eq_some_iff.1 hii).1).trans hii; have hfx := hfi.trans (hf3.mono hBs))
              | (go_at_call 222; refine (smallLetter_any _ _ (by omega) (by omega)).mono ?_; rintro e w2 ⟨rfl, rfl⟩; rw [hlw])
              | (at_builtin; refine wpList_push rfl _ _ rfl _ (w.heap.size + 1) _ _ [lowB s[pos]] _ ho3 hB3 rfl 1 1 rfl rfl (one_row (lowB s[pos])) (by simp only [List.length_singleton]; omega) ?_; intro v2 w2 ho2 hf2))
            go_wp2
            go_roundg m
            case measure => omega
            case rel => exact ⟨pos + 1, by omega, by omega, by rw [HT.out]; exact ho2, hf2.iter hi3, HN.out, hfx.trans hf2⟩
      | false =>
        have HB : Hid (phK (byt s) = none) := by
          show phK (byt s) = none
          rw [phK_eq, all_bad s pos hlt phO hok]; rfl
        have hgen : ∃ r q : Nat, (∀ ty, (Instr.next (.pointer (some ⟨w1.heap.size, 0, none⟩)) true ty).run Tryz.prog wr = .ok (.tuple #[.bool true, .int .i64 pos, .int .i32 r]) (wr.iterAt w1.heap.size s (pos + q))) ∧ (((0 : Int) ≤ (r : Int) ∧ (r : Int) < 55296) ∨ (57343 < (r : Int) ∧ (r : Int) ≤ 1114111)) ∧ rLet (r : Int) = false ∧ rDig (r : Int) = false ∧ (decide ((0 : Int) ≤ (r : Int) ∧ (r : Int) < 128) && phS ((r : Int)).toNat.toUInt8) = false ∧ (r : Int) ≠ 32 ∧ (r : Int) ≠ 45 := by
          by_cases hb : s[pos].toNat < 128
          · unfold phO at hok
            simp only [Bool.or_eq_false_iff] at hok
            obtain ⟨⟨⟨k1, k2⟩, k3⟩, k4⟩ := hok
            refine ⟨s[pos].toNat, 1, fun ty => Lib.run_next_ascii_at (P := Tryz.prog) wr w1.heap.size s pos ty hit hlt hb, Or.inl ⟨by omega, by omega⟩, by rw [rLet_byte]; exact k1, by rw [rDig_byte]; exact k2, ?_, ?_, ?_⟩
            · rw [decide_eq_true (by omega), Bool.true_and]
              simpa using k3
            · intro e
              have : s[pos] = 32 := UInt8.toNat_inj.1 (by show s[pos].toNat = 32; omega)
              rw [this] at k4
              simp at k4
            · intro e
              have : s[pos] = 45 := UInt8.toNat_inj.1 (by show s[pos].toNat = 45; omega)
              rw [this] at k3
              simp [phS] at k3
          · have hrh : 128 ≤ (decodeL ((byt s).drop pos)).1 := by
              rw [HE.out]
              exact rune_high s[pos] ((byt s).drop (pos + 1)) (by omega)
            refine ⟨(Utf8.decode s pos).1, (Utf8.decode s pos).2, fun ty => Lib.run_next_any_at (P := Tryz.prog) wr w1.heap.size s pos ty hit hlt, ?_, ?_, ?_, ?_, ?_, ?_⟩
            · rw [dec_byt]; exact decode_valid _
            · rw [dec_byt]; exact rLet_high _ (by omega)
            · rw [dec_byt]; unfold rDig; simp; omega
            · rw [dec_byt, decide_eq_false (by omega), Bool.false_and]
            · rw [dec_byt]; omega
            · rw [dec_byt]; omega
        obtain ⟨r, q, hnx, rv, hrl, hrd, hrc, r32, r45⟩ := hgen
        have hcr := fun w => ContainsRune_any w (r : Int) rv
        rw [hrc] at hcr
        have n1 : ((r : Int) == 32) = false := by simpa using r32
        have n2 : ((r : Int) == 45) = false := by simpa using r45
        have hfi := hfr.iterAt hB0 hIT2 s (pos + q)
        clear hit hok rv hrc r32 r45 hn
        go_wp2_with (first
          | (go_at_call 225; refine (isLetter_any _ _).mono ?_; rintro e w2 ⟨rfl, rfl⟩; rw [hrl])
          | (go_at_call 224; refine (isDigit_any _ _).mono ?_; rintro e w2 ⟨rfl, rfl⟩; rw [hrd])
          | (go_at_call 226; refine (hcr _).mono ?_; rintro e w3 ⟨rfl, hf3⟩))
        go_ret2
        exact ⟨ret_none HB.out, hfin _ (hfi.trans (hf3.mono (by rw [Lib.iterAt_size]; have := hfr.size; simp at this; exact this)))⟩
    · have hnx := fun ty => Lib.run_next_end_at (P := Tryz.prog) wr w1.heap.size s pos ty hit hlt
      have HR : Hid (phK (byt s) = some ((((byt s).take pos).filter phD).map lowB)) := by
        show phK (byt s) = _
        have := HA.out
        rw [take_whole s pos hlt] at this ⊢
        rw [phK_eq, if_pos this]
      have hcv := hown.conv
      go_wp2
      go_ret2
      exact ⟨ret_some HR.out rfl, hfin _ hfr⟩
end Go.Proofs.YthifcfdbifhanaaGreatDoor

/-
  Words: a letter, and behind it letters, digits and -; texts with their letters small.
-/
namespace Go.Proofs.YthifcfdbifhanaaGreatDoor
open Go.RowKit
open Go.Lib (decodeL)

def wdB (first : Bool) (b : UInt8) : Bool := isLet b || (!first && (isDig b || b == 45))
def wordGo : Bool → List UInt8 → Bool
  | _, [] => true
  | f, b :: t => wdB f b && wordGo false t
theorem wordGo_all (l : List UInt8) : wordGo false l = l.all (fun b => isLet b || isDig b || b == 45) := by
  induction l with
  | nil => rfl
  | cons b t ih => rw [wordGo, ih, List.all_cons]; unfold wdB; simp [Bool.or_assoc]
theorem word_eq (l : List UInt8) : wordB l = (wordGo true l && !l.isEmpty) := by
  cases l with
  | nil => rfl
  | cons a t => rw [wordB, wordGo, wordGo_all]; unfold wdB; simp
theorem wd_ascii (f : Bool) (b : UInt8) (h : wdB f b = true) : b.toNat < 128 := by
  cases f
  · exact all256R (p := fun b => wdB false b = true → b.toNat < 128) (by decide +kernel) b h
  · exact all256R (p := fun b => wdB true b = true → b.toNat < 128) (by decide +kernel) b h
set_option maxRecDepth 100000 in
set_option maxHeartbeats 2000000 in
theorem isWord_any (w : World) (s : ByteArray) (hs : s.size ≤ 140737488355328) :
    Calls Tryz.prog 205 #[.string s] w fun e w' => e = .returned (.bool (wordB (byt s))) ∧ Fr w.heap.size w w' := by
  rw [word_eq]
  obtain ⟨A, hA⟩ : ∃ A, Hid (A = wordGo true (byt s)) := ⟨wordGo true (byt s), rfl⟩
  have hem : s.toList.isEmpty = (byt s).isEmpty := by rw [toList_byt]
  rw [← hA.out, ← hem]
  clear hem
  go_enter Tryz.func205, Tryz.ntmps205
  go_wp2
  go_loopg [3, 4] s.size (fun n u v wr => ∃ pos : Nat, pos ≤ s.size ∧ s.size - pos ≤ n ∧ wr.heap[w.heap.size]? = some (.stringIter s pos) ∧ wordGo true (byt s) = wordGo (decide (pos = 0)) ((byt s).drop pos) ∧ Fr w.heap.size w wr)
  case atStart => exact ⟨0, Nat.zero_le _, by omega, World.iter_heap w s 0, rfl, Fr.one _⟩
  case round =>
    obtain ⟨pos, hp, hn, hit, hwd, hfr⟩ := hrel
    have HW : Hid _ := hwd
    clear hwd
    by_cases hlt : pos < s.size
    · obtain ⟨m, rfl⟩ : ∃ m, gk = m + 1 := ⟨gk - 1, by omega⟩
      have HE : Hid _ := drop_one s pos hlt
      have np : ((pos : Int) == 0) = decide (pos = 0) := by
        by_cases h : pos = 0
        · subst h; rfl
        · rw [decide_eq_false h]; simp only [beq_eq_false_iff_ne, ne_eq]; omega
      generalize decide (pos = 0) = f at *
      cases hok : wdB f s[pos] with
      | true =>
        have hb := wd_ascii _ _ hok
        have hnx := fun ty => Lib.run_next_ascii_at (P := Tryz.prog) wr w.heap.size s pos ty hit hlt hb
        have hii := Lib.iterAt_heap wr w.heap.size s pos (pos + 1) hit
        have hfi := hfr.iterAt (Nat.le_refl _) (Nat.le_refl _) s (pos + 1)
        have HN : Hid (wordGo true (byt s) = wordGo (decide (pos + 1 = 0)) ((byt s).drop (pos + 1))) := by
          show _ = _
          rw [HW.out, HE.out, wordGo, hok, Bool.true_and, decide_eq_false (by omega)]
        have hrl : rLet (s[pos].toNat : Int) = isLet s[pos] := rLet_byte _
        have hrd : rDig (s[pos].toNat : Int) = isDig s[pos] := rDig_byte _
        have hor : isLet s[pos] = true ∨ (isLet s[pos] = false ∧ f = false ∧ isDig s[pos] = true) ∨ (isLet s[pos] = false ∧ f = false ∧ isDig s[pos] = false ∧ s[pos] = 45) := by
          unfold wdB at hok
          revert hok
          cases isLet s[pos] <;> cases f <;> cases isDig s[pos] <;> simp
        clear hit hok
        rcases hor with e1 | ⟨e1, rfl, e2⟩ | ⟨e1, rfl, e2, e3⟩
        · rw [e1] at hrl
          go_wp2_with (first
            | (go_at_call 225; refine (isLetter_any _ _).mono ?_; rintro e w2 ⟨rfl, rfl⟩; rw [hrl])
            | (go_at_call 224; refine (isDigit_any _ _).mono ?_; rintro e w2 ⟨rfl, rfl⟩; rw [hrd]))
          go_roundg m
          case measure => omega
          case rel => exact ⟨pos + 1, by omega, by omega, hii, HN.out, hfi⟩
        · rw [e1] at hrl
          rw [e2] at hrd
          go_wp2_with (first
            | (go_at_call 225; refine (isLetter_any _ _).mono ?_; rintro e w2 ⟨rfl, rfl⟩; rw [hrl])
            | (go_at_call 224; refine (isDigit_any _ _).mono ?_; rintro e w2 ⟨rfl, rfl⟩; rw [hrd]))
          go_roundg m
          case measure => omega
          case rel => exact ⟨pos + 1, by omega, by omega, hii, HN.out, hfi⟩
        · rw [e1] at hrl
          rw [e2] at hrd
          have n3 : ((s[pos].toNat : Int) != 45) = false := by rw [e3]; rfl
          clear e3
          go_wp2_with (first
            | (go_at_call 225; refine (isLetter_any _ _).mono ?_; rintro e w2 ⟨rfl, rfl⟩; rw [hrl])
            | (go_at_call 224; refine (isDigit_any _ _).mono ?_; rintro e w2 ⟨rfl, rfl⟩; rw [hrd]))
          go_roundg m
          case measure => omega
          case rel => exact ⟨pos + 1, by omega, by omega, hii, HN.out, hfi⟩
      | false =>
        have HB : Hid (A = false) := by
          show A = false
          rw [hA.out, HW.out, HE.out, wordGo, hok]; rfl
        have hgen : ∃ r q : Nat, (∀ ty, (Instr.next (.pointer (some ⟨w.heap.size, 0, none⟩)) true ty).run Tryz.prog wr = .ok (.tuple #[.bool true, .int .i64 pos, .int .i32 r]) (wr.iterAt w.heap.size s (pos + q))) ∧ rLet (r : Int) = false ∧ (f = true ∨ (f = false ∧ rDig (r : Int) = false ∧ ((r : Int) != 45) = true)) := by
          by_cases hb : s[pos].toNat < 128
          · refine ⟨s[pos].toNat, 1, fun ty => Lib.run_next_ascii_at (P := Tryz.prog) wr w.heap.size s pos ty hit hlt hb, ?_, ?_⟩
            · rw [rLet_byte]
              unfold wdB at hok
              revert hok
              cases isLet s[pos] <;> simp
            · cases f
              · right
                rw [rDig_byte]
                unfold wdB at hok
                simp only [Bool.or_eq_false_iff, Bool.not_false, Bool.true_and] at hok
                refine ⟨rfl, hok.2.1, ?_⟩
                simp only [bne_iff_ne, ne_eq]
                intro e
                have : s[pos] = 45 := UInt8.toNat_inj.1 (by show s[pos].toNat = 45; omega)
                rw [this] at hok
                simp at hok
              · left; rfl
          · have hrh : 128 ≤ (decodeL ((byt s).drop pos)).1 := by
              rw [HE.out]
              exact rune_high s[pos] ((byt s).drop (pos + 1)) (by omega)
            refine ⟨(Utf8.decode s pos).1, (Utf8.decode s pos).2, fun ty => Lib.run_next_any_at (P := Tryz.prog) wr w.heap.size s pos ty hit hlt, ?_, ?_⟩
            · rw [dec_byt]; exact rLet_high _ (by omega)
            · cases f
              · right
                rw [dec_byt]
                refine ⟨rfl, by unfold rDig; simp; omega, by simp only [bne_iff_ne, ne_eq]; omega⟩
              · left; rfl
        obtain ⟨r, q, hnx, hrl, hcs⟩ := hgen
        have hfi := hfr.iterAt (Nat.le_refl _) (Nat.le_refl _) s (pos + q)
        clear hit hok hn
        rcases hcs with rfl | ⟨rfl, hrd, n3⟩
        · go_wp2_with (first
            | (go_at_call 225; refine (isLetter_any _ _).mono ?_; rintro e w2 ⟨rfl, rfl⟩; rw [hrl]))
          go_ret
          exact ⟨by rw [HB.out]; rfl, hfi⟩
        · go_wp2_with (first
            | (go_at_call 225; refine (isLetter_any _ _).mono ?_; rintro e w2 ⟨rfl, rfl⟩; rw [hrl])
            | (go_at_call 224; refine (isDigit_any _ _).mono ?_; rintro e w2 ⟨rfl, rfl⟩; rw [hrd]))
          go_ret
          exact ⟨by rw [HB.out]; rfl, hfi⟩
    · have hnx := fun ty => Lib.run_next_end_at (P := Tryz.prog) wr w.heap.size s pos ty hit hlt
      have HB : Hid (A = true) := by
        show A = true
        rw [hA.out, HW.out, drop_end s pos hlt, wordGo]
      go_wp2
      go_ret
      exact ⟨ret_b (by rw [HB.out, Bool.true_and]), hfr⟩

set_option maxRecDepth 100000 in
set_option maxHeartbeats 2000000 in
theorem smallLetters_any (w : World) (s : ByteArray) (hs : s.size ≤ 65536) (ha : ∀ i (h : i < s.size), s[i].toNat < 128) :
    Calls Tryz.prog 207 #[.string s] w fun e w' => e = .returned (.string (str ((byt s).map lowB))) ∧ Fr w.heap.size w w' := by
  go_enter Tryz.func207, Tryz.ntmps207
  go_wp2_with (first
    | (at_make; refine wpList_make8 rfl _ _ rfl _ s.size rfl rfl rfl (by omega) ?_))
  intro v1 w1 hown1 hfr1
  have hB0 : w.heap.size ≤ w1.heap.size := hfr1.size
  go_wp2
  go_loopg [3, 5] s.size (fun n v x wr => ∃ pos : Nat, pos ≤ s.size ∧ s.size - pos ≤ n ∧ Own wr w.heap.size v (((byt s).take pos).map lowB) ∧ wr.heap[w1.heap.size]? = some (.stringIter s pos) ∧ Fr w.heap.size w wr)
  case atStart => exact ⟨0, Nat.zero_le _, by omega, hown1.alloc _, World.iter_heap w1 s 0, hfr1.alloc hB0 _⟩
  case round =>
    obtain ⟨pos, hp, hn, hown, hit, hfr⟩ := hrel
    clear hown1 hfr1
    by_cases hlt : pos < s.size
    · obtain ⟨m, rfl⟩ : ∃ m, gk = m + 1 := ⟨gk - 1, by omega⟩
      have hb := ha pos hlt
      have hnx := fun ty => Lib.run_next_ascii_at (P := Tryz.prog) wr w1.heap.size s pos ty hit hlt hb
      have hfi := hfr.iterAt hB0 hB0 s (pos + 1)
      have hoi := hown.iterAt hit (pos + 1)
      have hii := Lib.iterAt_heap wr w1.heap.size s pos (pos + 1) hit
      have HT : Hid (((byt s).take (pos + 1)).map lowB = ((byt s).take pos).map lowB ++ [lowB s[pos]]) := by
        show _ = _
        rw [take_snoc s pos hlt, List.map_append]; rfl
      have hBs : w.heap.size ≤ (wr.iterAt w1.heap.size s (pos + 1)).heap.size := by rw [Lib.iterAt_size]; exact hfr.size
      have hlw := rLow_byte s[pos]
      have hll := low_ascii s[pos] hb
      have hlen : (((byt s).take pos).map lowB).length ≤ 65536 := by rw [List.length_map, List.length_take]; omega
      clear hit
      go_wp2_with (first
        | (go_at_call 222; refine (smallLetter_any _ _ (by omega) (by omega)).mono ?_; rintro e w2 ⟨rfl, rfl⟩; rw [hlw])
        | (go_at_call 223; refine (AppendRune_any _ w.heap.size _ _ ((lowB s[pos]).toNat : Int) (by omega) (by omega) hoi hBs (by omega)).mono ?_; rintro e w3 ⟨v3, rfl, ho3, hf3⟩; rw [low_enc _ hll] at ho3))
      go_roundg m
      case measure => omega
      case rel => exact ⟨pos + 1, by omega, by omega, by rw [HT.out]; exact ho3, hf3.iter hii, hfi.trans hf3⟩
    · have hnx := fun ty => Lib.run_next_end_at (P := Tryz.prog) wr w1.heap.size s pos ty hit hlt
      have hcv := hown.conv
      have HT : Hid (((byt s).take pos).map lowB = (byt s).map lowB) := by
        show _ = _
        rw [take_whole s pos hlt]
      rw [HT.out] at hcv
      go_wp2
      go_ret
      exact ⟨rfl, hfr⟩
end Go.Proofs.YthifcfdbifhanaaGreatDoor
