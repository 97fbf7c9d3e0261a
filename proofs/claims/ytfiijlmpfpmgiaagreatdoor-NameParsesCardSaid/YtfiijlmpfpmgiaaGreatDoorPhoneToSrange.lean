/-
  The form of phones' numbers.
-/
import Derived.Test.YtfiijlmpfpmgiaaGreatDoorIdxR
import Derived.Test.YtfiijlmpfpmgiaaGreatDoorKeyToSleaf
import Derived.Lib.TrimUEq
import Derived.Shelf.LaysM
import Derived.Shelf.Strconv.Itoa3
import Derived.Shelf.Strings.SplitShaped
import Derived.Test.YtfiijlmpfpmgiaaGreatDoorChecked
import Derived.Test.YtfiijlmpfpmgiaaGreatDoorSpKToNumA
import Derived.Lib.SplitLaws
import Derived.Lib.IndexBytes
import Derived.Test.YtfiijlmpfpmgiaaGreatDoorXrowToXapp
import Derived.RangeFuncNested
import Derived.RangeFuncBound
import Derived.RangeFuncCalls
import Derived.RangeFuncLeaves
import Derived.RangeFuncFrom
import Derived.Shelf.Abstract
import Derived.Shelf.RegionOpen
import Derived.OwnWalkIn
import Derived.TacticsInMore
import Derived.LoopNIn
import Derived.LoopIn
namespace Go.Proofs.YtfiijlmpfpmgiaaGreatDoor
open Go.RowKit
open Go.Lib (decodeL)

/-- may it stand in a phone's number? -/
def phO (b : UInt8) : Bool := isLet b || isDig b || phS b || b == 32
def phD (b : UInt8) : Bool := !(b == 32 || b == 45)
theorem phK_eq (l : List UInt8) : phK l = if l.all phO then some ((l.filter phD).map lowB) else none := rfl
theorem ph_ascii (b : UInt8) (h : phO b = true) : b.toNat < 128 := all256R (p := fun b => phO b = true → b.toNat < 128) (by decide +kernel) b h
theorem filt_len (l : List UInt8) (k : Nat) : (((l.take k).filter phD).map lowB).length ≤ k := by
  rw [List.length_map]
  have := List.length_filter_le phD (l.take k)
  rw [List.length_take] at this
  omega
theorem decodeN_valid (n b0 b1 b2 b3 : Nat) (h0 : b0 < 256) : (Lib.decodeN n b0 b1 b2 b3).1 < 55296 ∨ (57343 < (Lib.decodeN n b0 b1 b2 b3).1 ∧ (Lib.decodeN n b0 b1 b2 b3).1 ≤ 1114111) := by
  unfold Lib.decodeN
  split
  · simp only; omega
  · split
    · split <;> (simp only; omega)
    · split
      · split
        · rename_i h; simp only; omega
        · simp only; omega
      · split
        · split
          · rename_i h; simp only; omega
          · simp only; omega
        · simp only; omega
theorem decode_valid (l : List UInt8) : ((0 : Int) ≤ ((decodeL l).1 : Int) ∧ ((decodeL l).1 : Int) < 55296) ∨ (57343 < ((decodeL l).1 : Int) ∧ ((decodeL l).1 : Int) ≤ 1114111) := by
  rw [Lib.decodeL_N]
  have := decodeN_valid l.length (l.getD 0 0).toNat (l.getD 1 0).toNat (l.getD 2 0).toNat (l.getD 3 0).toNat (UInt8.toNat_lt _)
  omega
theorem byteNb {a b : UInt8} (h : a ≠ b) : ((a.toNat : Int) == (b.toNat : Int)) = false := by
  simp only [beq_eq_false_iff_ne, ne_eq]
  intro e
  exact h (UInt8.toNat_inj.1 (by omega))
theorem one_row (b : UInt8) : (#[.int .u8 (b.toNat : Int)] : Array Value) = ([b].map B8).toArray := rfl
set_option maxRecDepth 100000 in
set_option maxHeartbeats 2000000 in
theorem phKept_any (w : World) (s : ByteArray) (hs : s.size ≤ 65536) :
    Calls Tryz.prog 206 #[.agg #[], .string s] w fun e w' => e = .returned (ans (phK (byt s))) ∧ Fr w.heap.size w w' := by
  go_enter Tryz.func206, Tryz.ntmps206
  go_wp2_with (first
    | (at_make; refine wpList_make8 rfl _ _ rfl _ s.size rfl rfl rfl (by omega) ?_))
  intro v1 w1 hown1 hfr1
  have hB0 : w.heap.size + 1 ≤ w1.heap.size := by have := hfr1.size; simp at this; exact this
  have hfin : ∀ wr : World, Fr (w.heap.size + 1) (w.alloc (Obj.cells #[] 253)) wr → Fr w.heap.size w wr := fun wr h => ((Fr.refl _ _).alloc (Nat.le_refl _) _).trans (h.mono (by omega))
  go_wp2
  go_loopg [6, 8] s.size (fun n v x wr => ∃ (pos : Nat), pos ≤ s.size ∧ s.size - pos ≤ n ∧ Own wr (w.heap.size + 1) v ((((byt s).take pos).filter phD).map lowB) ∧ wr.heap[w1.heap.size]? = some (.stringIter s pos) ∧ ((byt s).take pos).all phO = true ∧ Fr (w.heap.size + 1) (w.alloc (Obj.cells #[] 253)) wr)
  case atStart => exact ⟨0, Nat.zero_le _, by omega, hown1.alloc _, World.iter_heap w1 s 0, rfl, hfr1.alloc hB0 _⟩
  case round =>
    obtain ⟨pos, hp, hn, hown, hit, hall, hfr⟩ := hrel
    have HA : Hid _ := hall
    clear hall hown1 hfr1
    by_cases hlt : pos < s.size
    · obtain ⟨m, rfl⟩ : ∃ m, gk = m + 1 := ⟨gk - 1, by omega⟩
      have HE : Hid _ := drop_one s pos hlt
      have HI : Hid _ := hit
      have hIT2 : (w.alloc (Obj.cells #[] 253)).heap.size ≤ w1.heap.size := by simp; exact hB0
      cases hok : phO s[pos] with
      | true =>
        have hb := ph_ascii _ hok
        have hnx := fun ty => Lib.run_next_ascii_at (P := Tryz.prog) wr w1.heap.size s pos ty hit hlt hb
        have hfi := hfr.iterAt hB0 hIT2 s (pos + 1)
        have hoi := hown.iterAt hit (pos + 1)
        have hii := Lib.iterAt_heap wr w1.heap.size s pos (pos + 1) hit
        have HN : Hid _ := all_take_step s pos hlt phO HA.out hok
        have hBs : w.heap.size + 1 ≤ (wr.iterAt w1.heap.size s (pos + 1)).heap.size := by
          rw [Lib.iterAt_size]; have := hfr.size; simp at this; exact this
        clear hit
        cases hd : phD s[pos] with
        | false =>
          have HT : Hid ((((byt s).take (pos + 1)).filter phD).map lowB = (((byt s).take pos).filter phD).map lowB) := by
            show _ = _
            rw [take_snoc s pos hlt, List.filter_append]; simp [hd]
          have hc : s[pos] = 32 ∨ s[pos] = 45 := by
            unfold phD at hd
            rcases Classical.em (s[pos] = 32) with e | e
            · exact Or.inl e
            · exact Or.inr (by simpa [e] using hd)
          rcases hc with hc | hc
          · have n1 : ((s[pos].toNat : Int) == 32) = true := by rw [hc]; rfl
            clear hd hok hc
            go_wp2
            go_roundg m
            case measure => omega
            case rel => exact ⟨pos + 1, by omega, by omega, by rw [HT.out]; exact hoi, hii, HN.out, hfi⟩
          · have n1 : ((s[pos].toNat : Int) == 32) = false := by rw [hc]; rfl
            have n2 : ((s[pos].toNat : Int) == 45) = true := by rw [hc]; rfl
            clear hd hok hc
            go_wp2
            go_roundg m
            case measure => omega
            case rel => exact ⟨pos + 1, by omega, by omega, by rw [HT.out]; exact hoi, hii, HN.out, hfi⟩
        | true =>
          have HT : Hid ((((byt s).take (pos + 1)).filter phD).map lowB = (((byt s).take pos).filter phD).map lowB ++ [lowB s[pos]]) := by
            show _ = _
            rw [take_snoc s pos hlt, List.filter_append, List.map_append]; simp [hd]
          have hc : s[pos] ≠ 32 ∧ s[pos] ≠ 45 := by
            unfold phD at hd
            simpa using hd
          have n1 : ((s[pos].toNat : Int) == 32) = false := byteNb hc.1
          have n2 : ((s[pos].toNat : Int) == 45) = false := byteNb hc.2
          have hlw := rLow_byte s[pos]
          have hlb := (lowB s[pos]).toNat_lt
          have hfl := filt_len (byt s) pos
          have hrl : rLet (s[pos].toNat : Int) = isLet s[pos] := rLet_byte _
          have hrd : rDig (s[pos].toNat : Int) = isDig s[pos] := rDig_byte _
          have hcr := fun w => ContainsRune_any w (s[pos].toNat : Int) (Or.inl ⟨by omega, by omega⟩)
          have hcv : (decide ((0 : Int) ≤ (s[pos].toNat : Int) ∧ (s[pos].toNat : Int) < 128) && phS ((s[pos].toNat : Int)).toNat.toUInt8) = phS s[pos] := by
            rw [decide_eq_true (by omega), Bool.true_and]; simp
          rw [hcv] at hcr
          have hor : isLet s[pos] = true ∨ (isLet s[pos] = false ∧ isDig s[pos] = true) ∨ (isLet s[pos] = false ∧ isDig s[pos] = false ∧ phS s[pos] = true) := by
            unfold phO at hok
            have h32 : (s[pos] == 32) = false := by simpa using hc.1
            rw [h32, Bool.or_false] at hok
            revert hok
            cases isLet s[pos] <;> cases isDig s[pos] <;> cases phS s[pos] <;> simp
          clear hd hok hc hcv
          rcases hor with e1 | ⟨e1, e2⟩ | ⟨e1, e2, e3⟩
          · rw [e1] at hrl
            go_wp2_with (first
              | (go_at_call 232; refine (isLetter_any _ _).mono ?_; rintro e w2 ⟨rfl, rfl⟩; rw [hrl])
              | (go_at_call 231; refine (isDigit_any _ _).mono ?_; rintro e w2 ⟨rfl, rfl⟩; rw [hrd])
              | (go_at_call 229; refine (smallLetter_any _ _ (by omega) (by omega)).mono ?_; rintro e w2 ⟨rfl, rfl⟩; rw [hlw])
              | (at_builtin; refine wpList_push rfl _ _ rfl _ (w.heap.size + 1) _ _ [lowB s[pos]] _ hoi hBs rfl 1 1 rfl rfl (one_row (lowB s[pos])) (by simp only [List.length_singleton]; omega) ?_; intro v2 w2 ho2 hf2))
            go_wp2
            go_roundg m
            case measure => omega
            case rel => exact ⟨pos + 1, by omega, by omega, by rw [HT.out]; exact ho2, hf2.iter hii, HN.out, hfi.trans hf2⟩
          · rw [e1] at hrl
            rw [e2] at hrd
            go_wp2_with (first
              | (go_at_call 232; refine (isLetter_any _ _).mono ?_; rintro e w2 ⟨rfl, rfl⟩; rw [hrl])
              | (go_at_call 231; refine (isDigit_any _ _).mono ?_; rintro e w2 ⟨rfl, rfl⟩; rw [hrd])
              | (go_at_call 229; refine (smallLetter_any _ _ (by omega) (by omega)).mono ?_; rintro e w2 ⟨rfl, rfl⟩; rw [hlw])
              | (at_builtin; refine wpList_push rfl _ _ rfl _ (w.heap.size + 1) _ _ [lowB s[pos]] _ hoi hBs rfl 1 1 rfl rfl (one_row (lowB s[pos])) (by simp only [List.length_singleton]; omega) ?_; intro v2 w2 ho2 hf2))
            go_wp2
            go_roundg m
            case measure => omega
            case rel => exact ⟨pos + 1, by omega, by omega, by rw [HT.out]; exact ho2, hf2.iter hii, HN.out, hfi.trans hf2⟩
          · rw [e1] at hrl
            rw [e2] at hrd
            rw [e3] at hcr
            go_wp2_with (first
              | (go_at_call 232; refine (isLetter_any _ _).mono ?_; rintro e w2 ⟨rfl, rfl⟩; rw [hrl])
              | (go_at_call 231; refine (isDigit_any _ _).mono ?_; rintro e w2 ⟨rfl, rfl⟩; rw [hrd])
              | (go_at_call 233; refine (hcr _).mono ?_; rintro e w3 ⟨rfl, hf3⟩; have ho3 := hoi.below hf3.1; have hB3 : w.heap.size + 1 ≤ w3.heap.size := Nat.le_trans hBs hf3.size; have hi3 := (hf3.1.block _ (Array.getElem?_eq_some_iff.1 hii).1).trans hii; have hfx := hfi.trans (hf3.mono hBs))
              | (go_at_call 229; refine (smallLetter_any _ _ (by omega) (by omega)).mono ?_; rintro e w2 ⟨rfl, rfl⟩; rw [hlw])
              | (at_builtin; refine wpList_push rfl _ _ rfl _ (w.heap.size + 1) _ _ [lowB s[pos]] _ ho3 hB3 rfl 1 1 rfl rfl (one_row (lowB s[pos])) (by simp only [List.length_singleton]; omega) ?_; intro v2 w2 ho2 hf2))
            go_wp2
            go_roundg m
            case measure => omega
            case rel => exact ⟨pos + 1, by omega, by omega, by rw [HT.out]; exact ho2, hf2.iter hi3, HN.out, hfx.trans hf2⟩
      | false =>
        have HB : Hid (phK (byt s) = none) := by
          show phK (byt s) = none
          rw [phK_eq, all_bad s pos hlt phO hok]; rfl
        have hgen : ∃ r q : Nat, (∀ ty, (Instr.next (.pointer (some ⟨w1.heap.size, 0, none⟩)) true ty).run Tryz.prog wr = .ok (.tuple #[.bool true, .int .i64 pos, .int .i32 r]) (wr.iterAt w1.heap.size s (pos + q))) ∧ (((0 : Int) ≤ (r : Int) ∧ (r : Int) < 55296) ∨ (57343 < (r : Int) ∧ (r : Int) ≤ 1114111)) ∧ rLet (r : Int) = false ∧ rDig (r : Int) = false ∧ (decide ((0 : Int) ≤ (r : Int) ∧ (r : Int) < 128) && phS ((r : Int)).toNat.toUInt8) = false ∧ (r : Int) ≠ 32 ∧ (r : Int) ≠ 45 := by
          by_cases hb : s[pos].toNat < 128
          · unfold phO at hok
            simp only [Bool.or_eq_false_iff] at hok
            obtain ⟨⟨⟨k1, k2⟩, k3⟩, k4⟩ := hok
            refine ⟨s[pos].toNat, 1, fun ty => Lib.run_next_ascii_at (P := Tryz.prog) wr w1.heap.size s pos ty hit hlt hb, Or.inl ⟨by omega, by omega⟩, by rw [rLet_byte]; exact k1, by rw [rDig_byte]; exact k2, ?_, ?_, ?_⟩
            · rw [decide_eq_true (by omega), Bool.true_and]
              simpa using k3
            · intro e
              have : s[pos] = 32 := UInt8.toNat_inj.1 (by show s[pos].toNat = 32; omega)
              rw [this] at k4
              simp at k4
            · intro e
              have : s[pos] = 45 := UInt8.toNat_inj.1 (by show s[pos].toNat = 45; omega)
              rw [this] at k3
              simp [phS] at k3
          · have hrh : 128 ≤ (decodeL ((byt s).drop pos)).1 := by
              rw [HE.out]
              exact rune_high s[pos] ((byt s).drop (pos + 1)) (by omega)
            refine ⟨(Utf8.decode s pos).1, (Utf8.decode s pos).2, fun ty => Lib.run_next_any_at (P := Tryz.prog) wr w1.heap.size s pos ty hit hlt, ?_, ?_, ?_, ?_, ?_, ?_⟩
            · rw [dec_byt]; exact decode_valid _
            · rw [dec_byt]; exact rLet_high _ (by omega)
            · rw [dec_byt]; unfold rDig; simp; omega
            · rw [dec_byt, decide_eq_false (by omega), Bool.false_and]
            · rw [dec_byt]; omega
            · rw [dec_byt]; omega
        obtain ⟨r, q, hnx, rv, hrl, hrd, hrc, r32, r45⟩ := hgen
        have hcr := fun w => ContainsRune_any w (r : Int) rv
        rw [hrc] at hcr
        have n1 : ((r : Int) == 32) = false := by simpa using r32
        have n2 : ((r : Int) == 45) = false := by simpa using r45
        have hfi := hfr.iterAt hB0 hIT2 s (pos + q)
        clear hit hok rv hrc r32 r45 hn
        go_wp2_with (first
          | (go_at_call 232; refine (isLetter_any _ _).mono ?_; rintro e w2 ⟨rfl, rfl⟩; rw [hrl])
          | (go_at_call 231; refine (isDigit_any _ _).mono ?_; rintro e w2 ⟨rfl, rfl⟩; rw [hrd])
          | (go_at_call 233; refine (hcr _).mono ?_; rintro e w3 ⟨rfl, hf3⟩))
        go_ret2
        exact ⟨ret_none HB.out, hfin _ (hfi.trans (hf3.mono (by rw [Lib.iterAt_size]; have := hfr.size; simp at this; exact this)))⟩
    · have hnx := fun ty => Lib.run_next_end_at (P := Tryz.prog) wr w1.heap.size s pos ty hit hlt
      have HR : Hid (phK (byt s) = some ((((byt s).take pos).filter phD).map lowB)) := by
        show phK (byt s) = _
        have := HA.out
        rw [take_whole s pos hlt] at this ⊢
        rw [phK_eq, if_pos this]
      have hcv := hown.conv
      go_wp2
      go_ret2
      exact ⟨ret_some HR.out rfl, hfin _ hfr⟩
end Go.Proofs.YtfiijlmpfpmgiaaGreatDoor

/-
  Words: a letter, and behind it letters, digits and -; texts with their letters small.
-/
namespace Go.Proofs.YtfiijlmpfpmgiaaGreatDoor
open Go.RowKit
open Go.Lib (decodeL)

def wdB (first : Bool) (b : UInt8) : Bool := isLet b || (!first && (isDig b || b == 45))
def wordGo : Bool → List UInt8 → Bool
  | _, [] => true
  | f, b :: t => wdB f b && wordGo false t
theorem wordGo_all (l : List UInt8) : wordGo false l = l.all (fun b => isLet b || isDig b || b == 45) := by
  induction l with
  | nil => rfl
  | cons b t ih => rw [wordGo, ih, List.all_cons]; unfold wdB; simp [Bool.or_assoc]
theorem word_eq (l : List UInt8) : wordB l = (wordGo true l && !l.isEmpty) := by
  cases l with
  | nil => rfl
  | cons a t => rw [wordB, wordGo, wordGo_all]; unfold wdB; simp
theorem wd_ascii (f : Bool) (b : UInt8) (h : wdB f b = true) : b.toNat < 128 := by
  cases f
  · exact all256R (p := fun b => wdB false b = true → b.toNat < 128) (by decide +kernel) b h
  · exact all256R (p := fun b => wdB true b = true → b.toNat < 128) (by decide +kernel) b h
set_option maxRecDepth 100000 in
set_option maxHeartbeats 2000000 in
theorem isWord_any (w : World) (s : ByteArray) (hs : s.size ≤ 140737488355328) :
    Calls Tryz.prog 212 #[.string s] w fun e w' => e = .returned (.bool (wordB (byt s))) ∧ Fr w.heap.size w w' := by
  rw [word_eq]
  obtain ⟨A, hA⟩ : ∃ A, Hid (A = wordGo true (byt s)) := ⟨wordGo true (byt s), rfl⟩
  have hem : s.toList.isEmpty = (byt s).isEmpty := by rw [toList_byt]
  rw [← hA.out, ← hem]
  clear hem
  go_enter Tryz.func212, Tryz.ntmps212
  go_wp2
  go_loopg [3, 4] s.size (fun n u v wr => ∃ pos : Nat, pos ≤ s.size ∧ s.size - pos ≤ n ∧ wr.heap[w.heap.size]? = some (.stringIter s pos) ∧ wordGo true (byt s) = wordGo (decide (pos = 0)) ((byt s).drop pos) ∧ Fr w.heap.size w wr)
  case atStart => exact ⟨0, Nat.zero_le _, by omega, World.iter_heap w s 0, rfl, Fr.one _⟩
  case round =>
    obtain ⟨pos, hp, hn, hit, hwd, hfr⟩ := hrel
    have HW : Hid _ := hwd
    clear hwd
    by_cases hlt : pos < s.size
    · obtain ⟨m, rfl⟩ : ∃ m, gk = m + 1 := ⟨gk - 1, by omega⟩
      have HE : Hid _ := drop_one s pos hlt
      have np : ((pos : Int) == 0) = decide (pos = 0) := by
        by_cases h : pos = 0
        · subst h; rfl
        · rw [decide_eq_false h]; simp only [beq_eq_false_iff_ne, ne_eq]; omega
      generalize decide (pos = 0) = f at *
      cases hok : wdB f s[pos] with
      | true =>
        have hb := wd_ascii _ _ hok
        have hnx := fun ty => Lib.run_next_ascii_at (P := Tryz.prog) wr w.heap.size s pos ty hit hlt hb
        have hii := Lib.iterAt_heap wr w.heap.size s pos (pos + 1) hit
        have hfi := hfr.iterAt (Nat.le_refl _) (Nat.le_refl _) s (pos + 1)
        have HN : Hid (wordGo true (byt s) = wordGo (decide (pos + 1 = 0)) ((byt s).drop (pos + 1))) := by
          show _ = _
          rw [HW.out, HE.out, wordGo, hok, Bool.true_and, decide_eq_false (by omega)]
        have hrl : rLet (s[pos].toNat : Int) = isLet s[pos] := rLet_byte _
        have hrd : rDig (s[pos].toNat : Int) = isDig s[pos] := rDig_byte _
        have hor : isLet s[pos] = true ∨ (isLet s[pos] = false ∧ f = false ∧ isDig s[pos] = true) ∨ (isLet s[pos] = false ∧ f = false ∧ isDig s[pos] = false ∧ s[pos] = 45) := by
          unfold wdB at hok
          revert hok
          cases isLet s[pos] <;> cases f <;> cases isDig s[pos] <;> simp
        clear hit hok
        rcases hor with e1 | ⟨e1, rfl, e2⟩ | ⟨e1, rfl, e2, e3⟩
        · rw [e1] at hrl
          go_wp2_with (first
            | (go_at_call 232; refine (isLetter_any _ _).mono ?_; rintro e w2 ⟨rfl, rfl⟩; rw [hrl])
            | (go_at_call 231; refine (isDigit_any _ _).mono ?_; rintro e w2 ⟨rfl, rfl⟩; rw [hrd]))
          go_roundg m
          case measure => omega
          case rel => exact ⟨pos + 1, by omega, by omega, hii, HN.out, hfi⟩
        · rw [e1] at hrl
          rw [e2] at hrd
          go_wp2_with (first
            | (go_at_call 232; refine (isLetter_any _ _).mono ?_; rintro e w2 ⟨rfl, rfl⟩; rw [hrl])
            | (go_at_call 231; refine (isDigit_any _ _).mono ?_; rintro e w2 ⟨rfl, rfl⟩; rw [hrd]))
          go_roundg m
          case measure => omega
          case rel => exact ⟨pos + 1, by omega, by omega, hii, HN.out, hfi⟩
        · rw [e1] at hrl
          rw [e2] at hrd
          have n3 : ((s[pos].toNat : Int) != 45) = false := by rw [e3]; rfl
          clear e3
          go_wp2_with (first
            | (go_at_call 232; refine (isLetter_any _ _).mono ?_; rintro e w2 ⟨rfl, rfl⟩; rw [hrl])
            | (go_at_call 231; refine (isDigit_any _ _).mono ?_; rintro e w2 ⟨rfl, rfl⟩; rw [hrd]))
          go_roundg m
          case measure => omega
          case rel => exact ⟨pos + 1, by omega, by omega, hii, HN.out, hfi⟩
      | false =>
        have HB : Hid (A = false) := by
          show A = false
          rw [hA.out, HW.out, HE.out, wordGo, hok]; rfl
        have hgen : ∃ r q : Nat, (∀ ty, (Instr.next (.pointer (some ⟨w.heap.size, 0, none⟩)) true ty).run Tryz.prog wr = .ok (.tuple #[.bool true, .int .i64 pos, .int .i32 r]) (wr.iterAt w.heap.size s (pos + q))) ∧ rLet (r : Int) = false ∧ (f = true ∨ (f = false ∧ rDig (r : Int) = false ∧ ((r : Int) != 45) = true)) := by
          by_cases hb : s[pos].toNat < 128
          · refine ⟨s[pos].toNat, 1, fun ty => Lib.run_next_ascii_at (P := Tryz.prog) wr w.heap.size s pos ty hit hlt hb, ?_, ?_⟩
            · rw [rLet_byte]
              unfold wdB at hok
              revert hok
              cases isLet s[pos] <;> simp
            · cases f
              · right
                rw [rDig_byte]
                unfold wdB at hok
                simp only [Bool.or_eq_false_iff, Bool.not_false, Bool.true_and] at hok
                refine ⟨rfl, hok.2.1, ?_⟩
                simp only [bne_iff_ne, ne_eq]
                intro e
                have : s[pos] = 45 := UInt8.toNat_inj.1 (by show s[pos].toNat = 45; omega)
                rw [this] at hok
                simp at hok
              · left; rfl
          · have hrh : 128 ≤ (decodeL ((byt s).drop pos)).1 := by
              rw [HE.out]
              exact rune_high s[pos] ((byt s).drop (pos + 1)) (by omega)
            refine ⟨(Utf8.decode s pos).1, (Utf8.decode s pos).2, fun ty => Lib.run_next_any_at (P := Tryz.prog) wr w.heap.size s pos ty hit hlt, ?_, ?_⟩
            · rw [dec_byt]; exact rLet_high _ (by omega)
            · cases f
              · right
                rw [dec_byt]
                refine ⟨rfl, by unfold rDig; simp; omega, by simp only [bne_iff_ne, ne_eq]; omega⟩
              · left; rfl
        obtain ⟨r, q, hnx, hrl, hcs⟩ := hgen
        have hfi := hfr.iterAt (Nat.le_refl _) (Nat.le_refl _) s (pos + q)
        clear hit hok hn
        rcases hcs with rfl | ⟨rfl, hrd, n3⟩
        · go_wp2_with (first
            | (go_at_call 232; refine (isLetter_any _ _).mono ?_; rintro e w2 ⟨rfl, rfl⟩; rw [hrl]))
          go_ret
          exact ⟨by rw [HB.out]; rfl, hfi⟩
        · go_wp2_with (first
            | (go_at_call 232; refine (isLetter_any _ _).mono ?_; rintro e w2 ⟨rfl, rfl⟩; rw [hrl])
            | (go_at_call 231; refine (isDigit_any _ _).mono ?_; rintro e w2 ⟨rfl, rfl⟩; rw [hrd]))
          go_ret
          exact ⟨by rw [HB.out]; rfl, hfi⟩
    · have hnx := fun ty => Lib.run_next_end_at (P := Tryz.prog) wr w.heap.size s pos ty hit hlt
      have HB : Hid (A = true) := by
        show A = true
        rw [hA.out, HW.out, drop_end s pos hlt, wordGo]
      go_wp2
      go_ret
      exact ⟨ret_b (by rw [HB.out, Bool.true_and]), hfr⟩

set_option maxRecDepth 100000 in
set_option maxHeartbeats 2000000 in
theorem smallLetters_any (w : World) (s : ByteArray) (hs : s.size ≤ 65536) (ha : ∀ i (h : i < s.size), s[i].toNat < 128) :
    Calls Tryz.prog 214 #[.string s] w fun e w' => e = .returned (.string (str ((byt s).map lowB))) ∧ Fr w.heap.size w w' := by
  go_enter Tryz.func214, Tryz.ntmps214
  go_wp2_with (first
    | (at_make; refine wpList_make8 rfl _ _ rfl _ s.size rfl rfl rfl (by omega) ?_))
  intro v1 w1 hown1 hfr1
  have hB0 : w.heap.size ≤ w1.heap.size := hfr1.size
  go_wp2
  go_loopg [3, 5] s.size (fun n v x wr => ∃ pos : Nat, pos ≤ s.size ∧ s.size - pos ≤ n ∧ Own wr w.heap.size v (((byt s).take pos).map lowB) ∧ wr.heap[w1.heap.size]? = some (.stringIter s pos) ∧ Fr w.heap.size w wr)
  case atStart => exact ⟨0, Nat.zero_le _, by omega, hown1.alloc _, World.iter_heap w1 s 0, hfr1.alloc hB0 _⟩
  case round =>
    obtain ⟨pos, hp, hn, hown, hit, hfr⟩ := hrel
    clear hown1 hfr1
    by_cases hlt : pos < s.size
    · obtain ⟨m, rfl⟩ : ∃ m, gk = m + 1 := ⟨gk - 1, by omega⟩
      have hb := ha pos hlt
      have hnx := fun ty => Lib.run_next_ascii_at (P := Tryz.prog) wr w1.heap.size s pos ty hit hlt hb
      have hfi := hfr.iterAt hB0 hB0 s (pos + 1)
      have hoi := hown.iterAt hit (pos + 1)
      have hii := Lib.iterAt_heap wr w1.heap.size s pos (pos + 1) hit
      have HT : Hid (((byt s).take (pos + 1)).map lowB = ((byt s).take pos).map lowB ++ [lowB s[pos]]) := by
        show _ = _
        rw [take_snoc s pos hlt, List.map_append]; rfl
      have hBs : w.heap.size ≤ (wr.iterAt w1.heap.size s (pos + 1)).heap.size := by rw [Lib.iterAt_size]; exact hfr.size
      have hlw := rLow_byte s[pos]
      have hll := low_ascii s[pos] hb
      have hlen : (((byt s).take pos).map lowB).length ≤ 65536 := by rw [List.length_map, List.length_take]; omega
      clear hit
      go_wp2_with (first
        | (go_at_call 229; refine (smallLetter_any _ _ (by omega) (by omega)).mono ?_; rintro e w2 ⟨rfl, rfl⟩; rw [hlw])
        | (go_at_call 230; refine (AppendRune_any _ w.heap.size _ _ ((lowB s[pos]).toNat : Int) (by omega) (by omega) hoi hBs (by omega)).mono ?_; rintro e w3 ⟨v3, rfl, ho3, hf3⟩; rw [low_enc _ hll] at ho3))
      go_roundg m
      case measure => omega
      case rel => exact ⟨pos + 1, by omega, by omega, by rw [HT.out]; exact ho3, hf3.iter hii, hfi.trans hf3⟩
    · have hnx := fun ty => Lib.run_next_end_at (P := Tryz.prog) wr w1.heap.size s pos ty hit hlt
      have hcv := hown.conv
      have HT : Hid (((byt s).take pos).map lowB = (byt s).map lowB) := by
        show _ = _
        rw [take_whole s pos hlt]
      rw [HT.out] at hcv
      go_wp2
      go_ret
      exact ⟨rfl, hfr⟩
end Go.Proofs.YtfiijlmpfpmgiaaGreatDoor

/-
  The bodies of the library's functions in this program are those that the library's contracts speak of.
-/
namespace Go.Proofs
open Go.Shelf
def Tryz.laysM171_ren : Go.Shelf.Ren := ⟨fun | 171 => 69 | 243 => 101 | 246 => 143 | 283 => 169 | 284 => 170 | 285 => 171 | 286 => 172 | 129 => 194 | 317 => 197 | 318 => 198 | 319 => 199 | 320 => 200 | 337 => 220 | 338 => 221 | n => n, fun | 3 => 3 | 9 => 9 | 2 => 2 | 4 => 4 | 171 => 242 | 0 => 0 | 53 => 243 | 37 => 67 | 5 => 5 | 173 => 246 | 212 => 271 | 51 => 267 | 20 => 20 | 213 => 272 | 46 => 85 | 232 => 308 | 233 => 309 | n => n, fun | 17 => 7 | 18 => 8 | 19 => 9 | n => n⟩
theorem Tryz.laysM171 : Go.Proofs.LaysM.n171 Tryz.prog Tryz.laysM171_ren := {
  mixed := by kernel_rfl
  f129 := Tryz.func194.trans (congrArg some (by kernel_rfl))
  f171 := Tryz.func69.trans (congrArg some (by kernel_rfl))
  f243 := Tryz.func101.trans (congrArg some (by kernel_rfl))
  f246 := Tryz.func143.trans (congrArg some (by kernel_rfl))
  f283 := Tryz.func169.trans (congrArg some (by kernel_rfl))
  f284 := Tryz.func170.trans (congrArg some (by kernel_rfl))
  f285 := Tryz.func171.trans (congrArg some (by kernel_rfl))
  f286 := Tryz.func172.trans (congrArg some (by kernel_rfl))
  f317 := Tryz.func197.trans (congrArg some (by kernel_rfl))
  f318 := Tryz.func198.trans (congrArg some (by kernel_rfl))
  f319 := Tryz.func199.trans (congrArg some (by kernel_rfl))
  f320 := Tryz.func200.trans (congrArg some (by kernel_rfl))
  f337 := Tryz.func220.trans (congrArg some (by kernel_rfl))
  f338 := Tryz.func221.trans (congrArg some (by kernel_rfl))
  t0 := Tryz.underlying0
  a0 := Tryz.isAgg0
  z0 := Tryz.sizeOf0
  v0 := Tryz.zeroValue0
  t2 := Tryz.underlying2
  a2 := Tryz.isAgg2
  z2 := Tryz.sizeOf2
  v2 := Tryz.zeroValue2
  t3 := Tryz.underlying3
  a3 := Tryz.isAgg3
  z3 := Tryz.sizeOf3
  v3 := Tryz.zeroValue3
  t4 := Tryz.underlying4
  a4 := Tryz.isAgg4
  z4 := Tryz.sizeOf4
  v4 := Tryz.zeroValue4
  t5 := Tryz.underlying5
  a5 := Tryz.isAgg5
  z5 := Tryz.sizeOf5
  v5 := Tryz.zeroValue5
  t9 := Tryz.underlying9
  a9 := Tryz.isAgg9
  z9 := Tryz.sizeOf9
  v9 := Tryz.zeroValue9
  t20 := Tryz.underlying20
  a20 := Tryz.isAgg20
  z20 := Tryz.sizeOf20
  v20 := Tryz.zeroValue20
  t37 := Tryz.underlying67
  a37 := Tryz.isAgg67
  z37 := Tryz.sizeOf67
  v37 := Tryz.zeroValue67
  t46 := Tryz.underlying85
  a46 := Tryz.isAgg85
  z46 := Tryz.sizeOf85
  v46 := Tryz.zeroValue85
  t51 := Tryz.underlying267
  a51 := Tryz.isAgg267
  z51 := Tryz.sizeOf267
  v51 := Tryz.zeroValue267
  t53 := Tryz.underlying243
  a53 := Tryz.isAgg243
  z53 := Tryz.sizeOf243
  v53 := Tryz.zeroValue243
  t171 := Tryz.underlying242
  a171 := Tryz.isAgg242
  z171 := Tryz.sizeOf242
  v171 := Tryz.zeroValue242
  t173 := Tryz.underlying246
  a173 := Tryz.isAgg246
  z173 := Tryz.sizeOf246
  v173 := Tryz.zeroValue246
  t212 := Tryz.underlying271
  a212 := Tryz.isAgg271
  z212 := Tryz.sizeOf271
  v212 := Tryz.zeroValue271
  t213 := Tryz.underlying272
  a213 := Tryz.isAgg272
  z213 := Tryz.sizeOf272
  t232 := Tryz.underlying308
  a232 := Tryz.isAgg308
  z232 := Tryz.sizeOf308
  v232 := Tryz.zeroValue308
  t233 := Tryz.underlying309
  a233 := Tryz.isAgg309
  z233 := Tryz.sizeOf309
  v233 := Tryz.zeroValue309
  g17 := by kernel_rfl
  g18 := by kernel_rfl
  g19 := by kernel_rfl
  i0 := by kernel_rfl
  i2 := by kernel_rfl
  i3 := by kernel_rfl
  i4 := by kernel_rfl
  i5 := by kernel_rfl
  i9 := by kernel_rfl
  i20 := by kernel_rfl
  i37 := by kernel_rfl
  i46 := by kernel_rfl
  i51 := by kernel_rfl
  i53 := by kernel_rfl
  i171 := by kernel_rfl
  i173 := by kernel_rfl
  i212 := by kernel_rfl
  i232 := by kernel_rfl
  i233 := by kernel_rfl
  m17 := by kernel_rfl
  m18 := by kernel_rfl
  m19 := by kernel_rfl }
def Tryz.lays171_ren : Go.Shelf.Ren := ⟨fun | 171 => 69 | 243 => 101 | 246 => 143 | 283 => 169 | 284 => 170 | 285 => 171 | 286 => 172 | 129 => 194 | 317 => 197 | 318 => 198 | 319 => 199 | 320 => 200 | 337 => 220 | 338 => 221 | n => n, fun | 3 => 3 | 9 => 9 | 2 => 2 | 4 => 4 | 171 => 242 | 0 => 0 | 53 => 243 | 37 => 67 | 5 => 5 | 173 => 246 | 212 => 271 | 51 => 267 | 20 => 20 | 213 => 272 | 46 => 85 | 232 => 308 | 233 => 309 | n => n, fun | 17 => 7 | 18 => 8 | 19 => 9 | n => n⟩
theorem Tryz.lays171 : Go.Proofs.Lays.n171 Tryz.prog Tryz.lays171_ren := {
  mixed := by kernel_rfl
  f129 := Tryz.func194.trans (congrArg some (by kernel_rfl))
  f171 := Tryz.func69.trans (congrArg some (by kernel_rfl))
  f243 := Tryz.func101.trans (congrArg some (by kernel_rfl))
  f246 := Tryz.func143.trans (congrArg some (by kernel_rfl))
  f283 := Tryz.func169.trans (congrArg some (by kernel_rfl))
  f284 := Tryz.func170.trans (congrArg some (by kernel_rfl))
  f285 := Tryz.func171.trans (congrArg some (by kernel_rfl))
  f286 := Tryz.func172.trans (congrArg some (by kernel_rfl))
  f317 := Tryz.func197.trans (congrArg some (by kernel_rfl))
  f318 := Tryz.func198.trans (congrArg some (by kernel_rfl))
  f319 := Tryz.func199.trans (congrArg some (by kernel_rfl))
  f320 := Tryz.func200.trans (congrArg some (by kernel_rfl))
  f337 := Tryz.func220.trans (congrArg some (by kernel_rfl))
  f338 := Tryz.func221.trans (congrArg some (by kernel_rfl))
  t0 := Tryz.underlying0
  a0 := Tryz.isAgg0
  z0 := Tryz.sizeOf0
  v0 := Tryz.zeroValue0
  t2 := Tryz.underlying2
  a2 := Tryz.isAgg2
  z2 := Tryz.sizeOf2
  v2 := Tryz.zeroValue2
  t3 := Tryz.underlying3
  a3 := Tryz.isAgg3
  z3 := Tryz.sizeOf3
  v3 := Tryz.zeroValue3
  t4 := Tryz.underlying4
  a4 := Tryz.isAgg4
  z4 := Tryz.sizeOf4
  v4 := Tryz.zeroValue4
  t5 := Tryz.underlying5
  a5 := Tryz.isAgg5
  z5 := Tryz.sizeOf5
  v5 := Tryz.zeroValue5
  t9 := Tryz.underlying9
  a9 := Tryz.isAgg9
  z9 := Tryz.sizeOf9
  v9 := Tryz.zeroValue9
  t20 := Tryz.underlying20
  a20 := Tryz.isAgg20
  z20 := Tryz.sizeOf20
  v20 := Tryz.zeroValue20
  t37 := Tryz.underlying67
  a37 := Tryz.isAgg67
  z37 := Tryz.sizeOf67
  v37 := Tryz.zeroValue67
  t46 := Tryz.underlying85
  a46 := Tryz.isAgg85
  z46 := Tryz.sizeOf85
  v46 := Tryz.zeroValue85
  t51 := Tryz.underlying267
  a51 := Tryz.isAgg267
  z51 := Tryz.sizeOf267
  v51 := Tryz.zeroValue267
  t53 := Tryz.underlying243
  a53 := Tryz.isAgg243
  z53 := Tryz.sizeOf243
  v53 := Tryz.zeroValue243
  t171 := Tryz.underlying242
  a171 := Tryz.isAgg242
  z171 := Tryz.sizeOf242
  v171 := Tryz.zeroValue242
  t173 := Tryz.underlying246
  a173 := Tryz.isAgg246
  z173 := Tryz.sizeOf246
  v173 := Tryz.zeroValue246
  t212 := Tryz.underlying271
  a212 := Tryz.isAgg271
  z212 := Tryz.sizeOf271
  v212 := Tryz.zeroValue271
  t213 := Tryz.underlying272
  a213 := Tryz.isAgg272
  z213 := Tryz.sizeOf272
  t232 := Tryz.underlying308
  a232 := Tryz.isAgg308
  z232 := Tryz.sizeOf308
  v232 := Tryz.zeroValue308
  t233 := Tryz.underlying309
  a233 := Tryz.isAgg309
  z233 := Tryz.sizeOf309
  v233 := Tryz.zeroValue309
  g17 := by kernel_rfl
  g18 := by kernel_rfl
  g19 := by kernel_rfl }
def Tryz.laysM146_ren : Go.Shelf.Ren := ⟨fun | 146 => 240 | 221 => 252 | 268 => 254 | 138 => 255 | 143 => 174 | 195 => 256 | 197 => 56 | 218 => 257 | 219 => 201 | 260 => 76 | 217 => 79 | 225 => 147 | 224 => 146 | 267 => 222 | 266 => 108 | 314 => 242 | n => n, fun | 9 => 9 | 31 => 59 | 3 => 3 | 4 => 4 | 0 => 0 | 105 => 121 | 21 => 21 | 5 => 5 | 46 => 85 | 119 => 173 | 139 => 176 | 138 => 175 | 146 => 310 | 51 => 267 | n => n, fun | 1 => 5 | 3 => 1 | 4 => 2 | n => n⟩
theorem Tryz.laysM146 : Go.Proofs.LaysM.n146 Tryz.prog Tryz.laysM146_ren := {
  mixed := by kernel_rfl
  f138 := Tryz.func255.trans (congrArg some (by kernel_rfl))
  f143 := Tryz.func174.trans (congrArg some (by kernel_rfl))
  f146 := Tryz.func240.trans (congrArg some (by kernel_rfl))
  f195 := Tryz.func256.trans (congrArg some (by kernel_rfl))
  f197 := Tryz.func56.trans (congrArg some (by kernel_rfl))
  f217 := Tryz.func79.trans (congrArg some (by kernel_rfl))
  f218 := Tryz.func257.trans (congrArg some (by kernel_rfl))
  f219 := Tryz.func201.trans (congrArg some (by kernel_rfl))
  f221 := Tryz.func252.trans (congrArg some (by kernel_rfl))
  f224 := Tryz.func146.trans (congrArg some (by kernel_rfl))
  f225 := Tryz.func147.trans (congrArg some (by kernel_rfl))
  f260 := Tryz.func76.trans (congrArg some (by kernel_rfl))
  f266 := Tryz.func108.trans (congrArg some (by kernel_rfl))
  f267 := Tryz.func222.trans (congrArg some (by kernel_rfl))
  f268 := Tryz.func254.trans (congrArg some (by kernel_rfl))
  f314 := Tryz.func242.trans (congrArg some (by kernel_rfl))
  t0 := Tryz.underlying0
  a0 := Tryz.isAgg0
  z0 := Tryz.sizeOf0
  v0 := Tryz.zeroValue0
  t3 := Tryz.underlying3
  a3 := Tryz.isAgg3
  z3 := Tryz.sizeOf3
  v3 := Tryz.zeroValue3
  t4 := Tryz.underlying4
  a4 := Tryz.isAgg4
  z4 := Tryz.sizeOf4
  v4 := Tryz.zeroValue4
  t5 := Tryz.underlying5
  a5 := Tryz.isAgg5
  z5 := Tryz.sizeOf5
  v5 := Tryz.zeroValue5
  t9 := Tryz.underlying9
  a9 := Tryz.isAgg9
  z9 := Tryz.sizeOf9
  v9 := Tryz.zeroValue9
  t21 := Tryz.underlying21
  a21 := Tryz.isAgg21
  z21 := Tryz.sizeOf21
  v21 := Tryz.zeroValue21
  t31 := Tryz.underlying59
  a31 := Tryz.isAgg59
  z31 := Tryz.sizeOf59
  v31 := Tryz.zeroValue59
  t46 := Tryz.underlying85
  a46 := Tryz.isAgg85
  z46 := Tryz.sizeOf85
  v46 := Tryz.zeroValue85
  t51 := Tryz.underlying267
  a51 := Tryz.isAgg267
  z51 := Tryz.sizeOf267
  v51 := Tryz.zeroValue267
  t105 := Tryz.underlying121
  a105 := Tryz.isAgg121
  z105 := Tryz.sizeOf121
  v105 := Tryz.zeroValue121
  t119 := Tryz.underlying173
  a119 := Tryz.isAgg173
  z119 := Tryz.sizeOf173
  t138 := Tryz.underlying175
  a138 := Tryz.isAgg175
  z138 := Tryz.sizeOf175
  v138 := Tryz.zeroValue175
  t139 := Tryz.underlying176
  a139 := Tryz.isAgg176
  z139 := Tryz.sizeOf176
  v139 := Tryz.zeroValue176
  t146 := Tryz.underlying310
  a146 := Tryz.isAgg310
  z146 := Tryz.sizeOf310
  v146 := Tryz.zeroValue310
  g1 := by kernel_rfl
  g3 := by kernel_rfl
  g4 := by kernel_rfl
  i0 := by kernel_rfl
  i3 := by kernel_rfl
  i4 := by kernel_rfl
  i5 := by kernel_rfl
  i9 := by kernel_rfl
  i21 := by kernel_rfl
  i31 := by kernel_rfl
  i46 := by kernel_rfl
  i51 := by kernel_rfl
  i105 := by kernel_rfl
  i138 := by kernel_rfl
  i139 := by kernel_rfl
  i146 := by kernel_rfl
  m1 := by kernel_rfl
  s1_3 := fun w h => Go.Proofs.cell_of_shapedOpen_int (zero := #[.int .i64 0]) (t := 3) h (of_decide_eq_true (by kernel_rfl)) (by kernel_rfl) rfl (by kernel_rfl) (by kernel_rfl) Tryz.underlying3
  m3 := by kernel_rfl
  m4 := by kernel_rfl }
end Go.Proofs

/-
  Numbers with dots between them.
-/
namespace Go.Proofs.YtfiijlmpfpmgiaaGreatDoor
open Go.RowKit

theorem splitD_none : ∀ l : List UInt8, (46 : UInt8) ∉ l → splitD l = [l]
  | [], _ => rfl
  | b :: t, h => by
    rw [splitD, if_neg (fun e => h (by simp [e])), splitD_none t (fun e => h (by simp [e]))]
theorem splitD_app : ∀ (p q : List UInt8), (46 : UInt8) ∉ p → splitD (p ++ 46 :: q) = p :: splitD q
  | [], q, _ => by rw [List.nil_append, splitD, if_pos rfl]
  | b :: p, q, h => by
    rw [List.cons_append, splitD, if_neg (fun e => h (by simp [e])), splitD_app p q (fun e => h (by simp [e]))]
theorem splitD_len : ∀ (l : List UInt8), ∀ r ∈ splitD l, r.length ≤ l.length
  | [], r, h => by simp [splitD] at h; subst h; simp
  | b :: t, r, h => by
    rw [splitD] at h
    split at h
    · rcases List.mem_cons.1 h with e | e
      · subst e; simp
      · have := splitD_len t r e; simp; omega
    · cases hs : splitD t with
      | nil => rw [hs] at h; simp at h; subst h; simp
      | cons r0 rs =>
        rw [hs] at h
        rcases List.mem_cons.1 h with e | e
        · subst e
          have := splitD_len t r0 (by rw [hs]; simp)
          simp; omega
        · have := splitD_len t r (by rw [hs]; simp [e])
          simp; omega
theorem idx_dot (s : ByteArray) : Lib.indexB s ⟨#[46]⟩ = Lib.indexByte (byt s) 46 := Go.Lib.one s ⟨#[46]⟩ rfl
theorem cnt_dot (s : ByteArray) : Lib.countB s ⟨#[46]⟩ = (byt s).count 46 := Lib.count_one 46 (byt s)
theorem splitB_dot : ∀ (k : Nat) (s : ByteArray), (byt s).count 46 = k → (Lib.splitB ⟨#[46]⟩ 0 k s).map byt = splitD (byt s) := by
  intro k
  induction k with
  | zero =>
    intro s h
    rw [splitD_none _ (by intro e; have := List.count_pos_iff.2 e; omega)]
    rfl
  | succ k ih =>
    intro s h
    have hne : Lib.indexByte (byt s) 46 ≠ -1 := by
      intro e
      have hn := Lib.indexByte_none e
      have : (46 : UInt8) ∈ byt s := List.count_pos_iff.1 (by omega)
      obtain ⟨i, hi, he⟩ := List.getElem_of_mem this
      exact hn i (by rw [List.getElem?_eq_getElem hi, he])
    have hge := Lib.indexByte_ge (byt s) 46
    obtain ⟨o, ho⟩ : ∃ o : Nat, Lib.indexByte (byt s) 46 = o := ⟨(Lib.indexByte (byt s) 46).toNat, by omega⟩
    obtain ⟨h1, h2⟩ := Lib.indexByte_some ho
    have hol : o < (byt s).length := (List.getElem?_eq_some_iff.1 h1).1
    have hsp : byt s = (byt s).take o ++ 46 :: (byt s).drop (o + 1) := by
      have hg : (byt s)[o] = 46 := (List.getElem?_eq_some_iff.1 h1).2
      rw [← hg, List.getElem_cons_drop, List.take_append_drop]
    have hno : (46 : UInt8) ∉ (byt s).take o := by
      intro e
      obtain ⟨i, hi, he⟩ := List.getElem_of_mem e
      have hi' : i < o := by rw [List.length_take] at hi; omega
      refine h2 i hi' ?_
      rw [List.getElem_take] at he
      rw [List.getElem?_eq_getElem (by omega), he]
    have hc : (byt (s.extract (o + 1) s.size)).count 46 = k := by
      rw [byt_from]
      rw [hsp, List.count_append, List.count_cons_self, List.count_eq_zero.2 hno] at h
      omega
    rw [Lib.splitB, idx_dot, ho]
    have hb : ((o : Int) == -1) = false := by simp only [beq_eq_false_iff_ne, ne_eq]; omega
    rw [hb]
    simp only [Bool.false_eq_true, if_false, List.map_cons]
    have e1 : ((o : Int)).toNat + 0 = o := by omega
    have e2 : ((o : Int)).toNat + (⟨#[46]⟩ : ByteArray).size = o + 1 := by show ((o : Int)).toNat + 1 = o + 1; omega
    rw [e1, e2, ih _ hc, byt_from]
    have e3 : byt (s.extract 0 o) = (byt s).take o := by rw [byt_extract]; simp
    rw [e3]
    conv => rhs; rw [hsp]
    rw [splitD_app _ _ hno]
set_option maxRecDepth 100000 in
theorem slIndex_dot (w : World) (x : ByteArray) :
    Calls Tryz.prog 201 #[.string x, .string ⟨#[46]⟩] w fun e w' => e = .returned (.int .i64 (Lib.indexB x ⟨#[46]⟩)) ∧ w' = w := by
  have hx := fun w => Any.stringslite_IndexByte ({ Tryz.laysM146 with } : Lays.n217 Tryz.prog Tryz.laysM146_ren) x 46 w
  rw [idx_dot]
  by_cases hq : byt x = [46]
  · have n1 : ([46] == x.toList) = true := by rw [toList_byt, hq]; rfl
    have HR : Hid (Lib.indexByte (byt x) 46 = 0) := by show Lib.indexByte (byt x) 46 = 0; rw [hq]; rfl
    clear hq hx
    go_enter Tryz.func201, Tryz.ntmps201
    go_wp2
    go_ret
    exact ⟨by rw [HR.out]; rfl, rfl⟩
  · have n1 : ([46] == x.toList) = false := by rw [toList_byt]; simp only [beq_eq_false_iff_ne, ne_eq]; exact fun e => hq e.symm
    have hx2 : ∀ w, Calls Tryz.prog 79 #[.string x, .int .u8 46] w fun e w' => e = .returned (.int .i64 (Lib.indexByte (byt x) 46)) ∧ w' = w := hx
    clear hq hx
    go_enter Tryz.func201, Tryz.ntmps201
    go_wp2_with (go_at_call 79; refine (hx2 _).mono ?_; rintro e w2 ⟨rfl, rfl⟩)
    go_ret
    exact ⟨rfl, rfl⟩
theorem Index_dot (w : World) (x : ByteArray) :
    Calls Tryz.prog 174 #[.string x, .string ⟨#[46]⟩] w fun e w' => e = .returned (.int .i64 (Lib.indexB x ⟨#[46]⟩)) ∧ w' = w := by
  have hx := fun w => slIndex_dot w x
  go_enter Tryz.func174, Tryz.ntmps174
  go_wp2_with (go_at_call 201; refine (hx _).mono ?_; rintro e w2 ⟨rfl, rfl⟩)
  go_ret
  exact ⟨rfl, rfl⟩
theorem Count_dot (w : World) (s : ByteArray) :
    Calls Tryz.prog 255 #[.string s, .string ⟨#[46]⟩] w fun e w' => e = .returned (.int .i64 (Lib.countB s ⟨#[46]⟩ : Nat)) ∧ w' = w := by
  rw [cnt_dot]
  exact Any.strings_Count_one ({ Tryz.laysM146 with } : Lays.n138 Tryz.prog Tryz.laysM146_ren) s 46 w
theorem Split_dot (w : World) (s : ByteArray) (hs : s.size ≤ 65536) :
    Calls Tryz.prog 240 #[.string s, .string ⟨#[46]⟩] w fun e w' => ∃ R : List ByteArray, R.map byt = splitD (byt s) ∧ e = .returned (.slice (some ⟨w.heap.size, 0, none⟩) R.length R.length) ∧ w' = w.alloc (.cells (R.map Value.string).toArray 9) := by
  have hle := Lib.countB_le ⟨#[46]⟩ (by decide) s.size s (Nat.le_refl _)
  have hlen := Lib.splitB_all ⟨#[46]⟩ (by decide) 0 _ s rfl
  have c := Any.strings_genSplit_core ({ Tryz.laysM146 with } : Lays.n221 Tryz.prog Tryz.laysM146_ren) Tryz.laysM146.i9 s ⟨#[46]⟩ 0 (-1) (Lib.countB s ⟨#[46]⟩ + 1) w (by omega) (by decide) (Nat.zero_le _)
    (fun x c hx => Index_dot _ x) (Count_dot w s) (by decide) (by decide) (by rw [if_pos (by decide)]; omega)
  rw [Nat.add_sub_cancel, hlen] at c
  have e2 : Lib.cellsOf (Lib.splitB ⟨#[46]⟩ 0 (Lib.countB s ⟨#[46]⟩) s) (Lib.countB s ⟨#[46]⟩ + 1) = ((Lib.splitB ⟨#[46]⟩ 0 (Lib.countB s ⟨#[46]⟩) s).map Value.string).toArray := by rw [← hlen]; exact Lib.cellsOf_full _
  rw [e2] at c
  have hR := splitB_dot _ s (cnt_dot s).symm
  have c2 : Calls Tryz.prog 252 #[.string s, .string ⟨#[46]⟩, .int .i64 0, .int .i64 (-1)] w fun e w' => e = .returned (.slice (some ⟨w.heap.size, 0, none⟩) (Lib.countB s ⟨#[46]⟩ + 1) (Lib.countB s ⟨#[46]⟩ + 1)) ∧ w' = w.alloc (.cells ((Lib.splitB ⟨#[46]⟩ 0 (Lib.countB s ⟨#[46]⟩) s).map Value.string).toArray 9) := c
  rw [← hlen] at c2
  generalize Lib.splitB ⟨#[46]⟩ 0 (Lib.countB s ⟨#[46]⟩) s = R at *
  clear c e2 hlen hle
  go_enter Tryz.func240, Tryz.ntmps240
  go_wp2_with (go_at_call 252; refine c2.mono ?_; rintro e w' ⟨rfl, rfl⟩)
  go_ret
  exact ⟨R, hR, rfl, rfl⟩
end Go.Proofs.YtfiijlmpfpmgiaaGreatDoor

/-
  A range over a function that keeps what it has still to hand out in a box of its own: the rounds' law.
-/
namespace Go.Proofs.YtfiijlmpfpmgiaaGreatDoor
open Go.RowKit Go.Shelf

/-- the blocks of B stand -/
def Keeps (B : Nat → Prop) (W W' : World) : Prop := ∀ k, B k → W'.heap[k]? = W.heap[k]?
theorem Keeps.refl (B : Nat → Prop) (W : World) : Keeps B W W := fun _ _ => rfl
theorem Keeps.trans {B : Nat → Prop} {A C D : World} (h : Keeps B A C) (k : Keeps B C D) : Keeps B A D := fun g hg => (k g hg).trans (h g hg)
/-- what lies from m on and is no row of cells lies as it lay -/
def Firm (m : Nat) (W W' : World) : Prop := ∀ k o, m ≤ k → W.heap[k]? = some o → o.isCells = false → W'.heap[k]? = some o
theorem Firm.refl (m : Nat) (W : World) : Firm m W W := fun _ _ _ h _ => h
theorem Firm.trans {m : Nat} {A C D : World} (h : Firm m A C) (k : Firm m C D) : Firm m A D := fun g o hg ho hc => k g o hg (h g o hg ho hc) hc
theorem Firm.setCell (m : Nat) (W : World) (p : Addr) (u : Value) : Firm m W (W.setCell p u) := by
  intro k o _ ho hc
  simp only [World.setCell, Array.getElem?_modify]
  split
  · rename_i e; subst e; rw [ho]; cases o <;> simp_all [Obj.isCells]
  · exact ho
theorem Ext.firm {m : Nat} {W W' : World} (h : Ext W W') : Firm m W W' := fun k _ _ ho _ => (h.block k (Array.getElem?_eq_some_iff.1 ho).1).trans ho
theorem Ext.keeps {B : Nat → Prop} {W W' : World} (h : Ext W W') (hB : ∀ k, B k → k < W.heap.size) : Keeps B W W' := fun k hk => h.block k (hB k hk)

theorem putObj_only {S : Nat → Prop} (W : World) (l : Nat) (o : Obj) (h : S l) : Only S W (W.putObj l o) :=
  ⟨rfl, rfl, rfl, by simp [World.putObj], fun k _ hn => World.putObj_heap_other (fun e => hn (e ▸ h))⟩

section
variable {α : Type} {n : Nat} {P : Program}
/-- a function that hands out what encs says, keeping what is left in the box Bs; the rounds keep the blocks of B -/
def BoxSeq (n : Nat) (P : Program) (gf : Nat) (lb : Array Value) (encs : α → Array Value) (B : Nat → Prop) (Bs : Nat) (S Sp : List α → Prop) (w : World) : Prop :=
  ∀ (l : Nat) (J Jx : List α → World → Prop) (W : World), Ext w W → (∀ s A u, J s A → J s (A.setCell ⟨Bs, 0, none⟩ u)) →
    (∀ pre x W1, J pre W1 → YieldAt Fence.wide (n - 1) P l (encs x) W1 fun e W' => (e = .returned (.bool true) ∧ J (pre ++ [x]) W' ∧ Keeps B W1 W') ∨ (e = .returned (.bool false) ∧ Jx (pre ++ [x]) W')) →
    J [] W → CallsIn Fence.wide n P gf (#[.func (.yield l) #[] #[]] ++ lb) W fun e W' => (∃ v, e = .returned v) ∧ ((∃ xs, S xs ∧ J xs W') ∨ (∃ pre, Sp pre ∧ Jx pre W'))

/-- how a round may end -/
def boxPost (m : Nat) (B : Nat → Prop) (I Ix : List α → World → Prop) (xs : List α) (W : World) : Exit → Act → World → Prop
  | .normal, _, W' => Firm m W W' ∧ Keeps B W W' ∧ I xs W'
  | .ret, _, W' => Firm m W W' ∧ Ix xs W'
  | _, _, _ => False

theorem wpIn_range_box {g : Operand} {ps : Array Tmp} {assign body : Code} {Q : Exit → Act → World → Prop} {a : Act} {w : World} {gf : Nat} {lb : Array Value} (hg : a.eval g = .func (.func gf) #[] lb)
    (eg : ∀ args w, (callFunc gf args).run P w = .ok (.enter gf args) w) {encs : α → Array Value} {B : Nat → Prop} {Bs : Nat} {S Sp : List α → Prop} (hseq : BoxSeq (n - 1) P gf lb encs B Bs S Sp w)
    (hB : ∀ k, B k → k < w.heap.size) (hBs : Bs < w.heap.size) (hps : ∀ x, (encs x).size = ps.size) (I Ix : List α → World → Prop)
    (hI : ∀ s W W', I s W → Only (Up (fun k => k = Bs) w.heap.size) W W' → I s W') (hIx : ∀ s W W', Ix s W → Only (Up (fun k => k = Bs) w.heap.size) W W' → Ix s W') (h0 : I [] w) (a₁ : α → Act)
    (hassign : ∀ (l : Nat) (x : α) (W : World) (K : Act → World → Prop), K (a₁ x) W →
      assign.wpIn (Fence.wide.inRound l) (n - 1 - 1) P (Exit.then K (fun _ _ _ => False)) { tmps := (ps.zip (encs x)).foldl (fun t (p, v) => t.setIfInBounds p v) a.tmps, defers := [] } W)
    (hbody : ∀ (l : Nat) (pre : List α) (x : α) (W : World), I pre W → body.wpIn (Fence.wide.inRound l) (n - 1 - 1) P (boxPost w.heap.size B I Ix (pre ++ [x]) W) (a₁ x) W)
    (hdone : ∀ (D : Nat) (xs : List α) (W : World), w.heap.size ≤ D → S xs → I xs W → W.heap[D]? = some (.deferred (some [])) → Q .normal { a with defers := { target := .collected D, args := #[] } :: a.defers } W)
    (hstop : ∀ (D : Nat) (pre : List α) (W : World), w.heap.size ≤ D → Sp pre → Ix pre W → W.heap[D]? = some (.deferred (some [])) → Code.ret.wpIn Fence.wide n P Q { a with defers := { target := .collected D, args := #[] } :: a.defers } W) :
    (Code.rangeFunc g ps assign body).wpIn Fence.wide n P Q a w := by
  refine wpIn_rangeFunc ?_
  intro fn hfn
  obtain ⟨rc, hrc⟩ : ∃ rc : LoopState → Option Code → Loop, rc = fun st pe => { state := st, pending := pe, fn, tmps := a.tmps, params := ps, assign, body, defers := w.heap.size } := ⟨_, rfl⟩
  obtain ⟨V, hV⟩ : ∃ V, (w.alloc (.deferred (some []))).alloc (.loop (rc .ready none)) = V := ⟨_, rfl⟩
  have xV : Ext w V := by rw [← hV]; exact ((Ext.refl w).alloc _).alloc _
  have hl0 : V.heap[w.heap.size + 1]? = some (.loop (rc .ready none)) := by
    rw [← hV]; have := World.alloc_heap_new (w.alloc (.deferred (some []))) (.loop (rc .ready none)); rwa [World.size_alloc] at this
  have hd0 : V.heap[w.heap.size]? = some (.deferred (some [])) := by
    rw [← hV]; exact (Below.heap_alloc _ _ _ (by simp)).trans (World.alloc_heap_new w _)
  have up : ∀ {l : Nat}, w.heap.size ≤ l → Up (fun k => k = Bs) w.heap.size l := fun h => .inr h
  refine ⟨w.heap.size + 1, [{ target := .collected w.heap.size, args := #[] }], V, { target := .fn (.func gf) lb, args := #[.func (.yield (w.heap.size + 1)) #[] #[]] }, V, gf, #[.func (.yield (w.heap.size + 1)) #[] #[]] ++ lb, V, ?_, ?_, fun _ _ => trivial, ?_, fun h => (by cases h), ?_⟩
  · rw [← hV, hrc]; exact run_enterLoop_outer _ _ _ _ _
  · simp only [resolve, hg]
    simp [go_sem]
  · simp [invoke, go_sem, eg]
  refine (hseq (w.heap.size + 1) (fun pre W => I pre W ∧ W.heap[w.heap.size + 1]? = some (.loop (rc .ready none)) ∧ W.heap[w.heap.size]? = some (.deferred (some [])))
    (fun pre W => Ix pre W ∧ W.heap[w.heap.size + 1]? = some (.loop (rc .done (some .ret))) ∧ W.heap[w.heap.size]? = some (.deferred (some []))) V xV ?_ ?_ ⟨hI _ _ _ h0 xV.only, hl0, hd0⟩).mono ?_
  · rintro s A u ⟨h1, h2, h3⟩
    refine ⟨hI _ _ _ h1 ((Only.refl _ A).setCell (p := ⟨Bs, 0, none⟩) (.inl (.inl rfl)) u), ?_, ?_⟩
    · rw [Below.heap_setCell _ _ _ _ (by simp; omega)]; exact h2
    · rw [Below.heap_setCell _ _ _ _ (by simp; omega)]; exact h3
  · rintro pre x W ⟨hi, hl, hd⟩
    have hlt : w.heap.size + 1 < W.heap.size := (Array.getElem?_eq_some_iff.1 hl).1
    have hy := run_yield (P := P) (args := encs x) hl (by rw [hrc]; exact hps x)
    rw [hrc] at hy
    obtain ⟨W2, hW2⟩ : ∃ W2, W.putObj (w.heap.size + 1) (.loop { rc .ready none with state := .busy }) = W2 := ⟨_, rfl⟩
    have hl2 : W2.heap[w.heap.size + 1]? = some (.loop { rc .ready none with state := .busy }) := by rw [← hW2]; exact World.putObj_heap_same hlt
    have hd2 : W2.heap[w.heap.size]? = some (.deferred (some [])) := by rw [← hW2]; exact (World.putObj_heap_other (by omega)).trans hd
    have hi2 : I pre W2 := by rw [← hW2]; exact hI _ _ _ hi (putObj_only W _ _ (up (by omega)))
    have hk2 : Keeps B W W2 := by intro k hk; rw [← hW2]; exact World.putObj_heap_other (by have := hB k hk; omega)
    refine ⟨fn, _, assign, body, hy, roundIn_of_wpIn hfn (hassign _ x W _ ⟨W2, by rw [← hW2]; exact run_beginRound hl (by rw [hrc]), wpIn_mono (hbody _ pre x W2 hi2) ?_⟩)⟩
    rintro e a3 W3 hp
    have fin : ∀ (jump : Option Code), Firm w.heap.size W2 W3 →
        (Instr.endRound (w.heap.size + 1) jump).run P W3 = .ok (.bool jump.isNone) (W3.putObj (w.heap.size + 1) (.loop (rc (if jump.isNone then .ready else .done) jump))) ∧
        (W3.putObj (w.heap.size + 1) (.loop (rc (if jump.isNone then .ready else .done) jump))).heap[w.heap.size + 1]? = some (.loop (rc (if jump.isNone then .ready else .done) jump)) ∧
        (W3.putObj (w.heap.size + 1) (.loop (rc (if jump.isNone then .ready else .done) jump))).heap[w.heap.size]? = some (.deferred (some [])) := fun jump hf => by
      have hl3 := hf _ _ (by omega) hl2 rfl
      have hd3 := hf _ _ (Nat.le_refl _) hd2 rfl
      have hr := run_endRound (P := P) jump hl3
      refine ⟨?_, World.putObj_heap_same (Array.getElem?_eq_some_iff.1 hl3).1, (World.putObj_heap_other (by omega)).trans hd3⟩
      rw [hr, hrc]
    cases e with
    | normal =>
      obtain ⟨hf, hk, hi3⟩ := hp
      obtain ⟨hr, hl4, hd4⟩ := fin none hf
      exact ⟨_, _, hr, .inl ⟨rfl, ⟨hI _ _ _ hi3 (putObj_only W3 _ _ (up (by omega))), hl4, hd4⟩, (hk2.trans hk).trans (fun k hb => World.putObj_heap_other (by have := hB k hb; omega))⟩⟩
    | ret =>
      obtain ⟨hf, hi3⟩ := hp
      obtain ⟨hr, hl4, hd4⟩ := fin (some .ret) hf
      exact ⟨_, _, hr, .inr ⟨rfl, hIx _ _ _ hi3 (putObj_only W3 _ _ (up (by omega))), hl4, hd4⟩⟩
    | _ => exact hp.elim
  · rintro e W2 ⟨⟨v, rfl⟩, ⟨xs, hS, hi, hl, hd⟩ | ⟨pre, hS, hi, hl, hd⟩⟩
    · refine ⟨none, _, by have := run_endLoop (P := P) hl (by rw [hrc]; simp); rw [hrc] at this; exact this, ?_⟩
      exact hdone _ xs _ (Nat.le_refl _) hS (hI _ _ _ hi (putObj_only W2 _ _ (up (by omega)))) ((World.putObj_heap_other (by omega)).trans hd)
    · refine ⟨some .ret, _, by have := run_endLoop (P := P) hl (by rw [hrc]; simp); rw [hrc] at this; exact this, ?_⟩
      exact hstop _ pre _ (Nat.le_refl _) hS (hIx _ _ _ hi (putObj_only W2 _ _ (up (by omega)))) ((World.putObj_heap_other (by omega)).trans hd)
end
end Go.Proofs.YtfiijlmpfpmgiaaGreatDoor
