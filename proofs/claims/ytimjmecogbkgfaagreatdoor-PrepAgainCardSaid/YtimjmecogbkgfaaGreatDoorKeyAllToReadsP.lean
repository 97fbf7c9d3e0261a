/-
  Key and Piece, whatever the form.
-/
import Derived.Test.YtimjmecogbkgfaaGreatDoorKey6ToKeyM
import Derived.Test.YtimjmecogbkgfaaGreatDoorKey3
import Derived.Test.YtimjmecogbkgfaaGreatDoorKey8
import Derived.Test.YtimjmecogbkgfaaGreatDoorPagain
import Derived.Test.YtimjmecogbkgfaaGreatDoorAliveToReads
import Derived.Test.YtimjmecogbkgfaaGreatDoorPadToPord
namespace Go.Proofs.YtimjmecogbkgfaaGreatDoor
open Go.RowKit

theorem keyL_at (f : Int) (s : ByteArray) (hs : s.size ≤ 65536) : keyL f (byt s) = if f = 0 then keySp true (byt s)
  else if f = 1 then keySp false (byt s)
  else if f = 2 then some1 (digK (byt s))
  else if f = 3 then some1 (phK (byt s))
  else if f = 4 then (numL (byt s)).map numKey
  else if f = 5 then flagK (byt s)
  else if f = 6 then (momL (byt s)).map timeK
  else if f = 7 then some (byt s)
  else if f = 8 then oidK (byt s)
  else none := by
  unfold keyL
  rw [if_neg (by rw [byt_length]; omega)]
theorem Key_all (w : World) (ht : HasTab w) (hp : HasPow w) (f : Int) (s : ByteArray) :
    Calls Tryz.prog 9 #[.int .i8 f, .string s] w fun e w' => e = .returned (ans (keyL f (byt s))) ∧ Fr w.heap.size w w' := by
  by_cases hf : 0 ≤ f ∧ f < 9
  · by_cases hs : s.size ≤ 65536
    · rw [keyL_at f s hs]
      obtain rfl | rfl | rfl | rfl | rfl | rfl | rfl | rfl | rfl : f = 0 ∨ f = 1 ∨ f = 2 ∨ f = 3 ∨ f = 4 ∨ f = 5 ∨ f = 6 ∨ f = 7 ∨ f = 8 := by omega
      · exact Key0_any w ht s hs
      · exact Key1_any w ht s hs
      · exact Key2_any w s hs
      · exact Key3_any w s hs
      · exact Key4_any w s hs
      · exact Key5_any w s hs
      · exact Key6_any w hp s hs
      · exact Key7_any w s hs
      · exact Key8_any w s hs
    · have : keyL f (byt s) = none := by unfold keyL; rw [if_pos (by rw [byt_length]; omega)]
      rw [this]
      exact KeyLong_any w f s (by omega) hf
  · have : keyL f (byt s) = none := by
      unfold keyL
      split
      · rfl
      · rw [if_neg (by omega), if_neg (by omega), if_neg (by omega), if_neg (by omega), if_neg (by omega), if_neg (by omega), if_neg (by omega), if_neg (by omega), if_neg (by omega)]
    rw [this]
    exact KeyNo_any w f s hf
theorem Piece_in (w : World) (ht : HasTab w) (f wh : Int) (hf : 0 ≤ f ∧ f ≤ 3) (hw : wh = 0 ∨ wh = 1 ∨ wh = 2) (s : ByteArray) (hs : s.size ≤ 65536) :
    Calls Tryz.prog 12 #[.int .i8 f, .int .i8 wh, .string s] w fun e w' => e = .returned (ans (pieceL f wh (byt s))) ∧ Fr w.heap.size w w' := by
  have : pieceL f wh (byt s) = if f = 0 then pieceSp true wh (byt s) else if f = 1 then pieceSp false wh (byt s) else if f = 2 then digK (byt s) else if f = 3 then phK (byt s) else none := by
    unfold pieceL
    rw [if_neg (by rw [byt_length]; rintro (e | e); omega; exact e hw)]
  rw [this]
  obtain rfl | rfl | rfl | rfl : f = 0 ∨ f = 1 ∨ f = 2 ∨ f = 3 := by omega
  · exact Piece0_any w ht wh hw s hs
  · exact Piece1_any w ht wh hw s hs
  · exact Piece2_any w wh hw s hs
  · exact Piece3_any w wh hw s hs
end Go.Proofs.YtimjmecogbkgfaaGreatDoor

/-
  PrepAgain: the law's walk.
-/
namespace Go.Proofs.YtimjmecogbkgfaaGreatDoor
open Go.RowKit

def formOf (n : Nat) : Int := ([0, 1, 2, 3, 5, 7, 8] : List Int).getD n 0
theorem formOf_again (n : Nat) (h : n < 7) : againB (formOf n) := by
  unfold againB
  match n, h with
  | 0, _ => decide
  | 1, _ => decide
  | 2, _ => decide
  | 3, _ => decide
  | 4, _ => decide
  | 5, _ => decide
  | 6, _ => decide
def formRow : Obj := .cells #[.int .i8 0, .int .i8 1, .int .i8 2, .int .i8 3, .int .i8 5, .int .i8 7, .int .i8 8] 22
theorem again_any (w : World) : Calls Tryz.prog 18 #[] w fun e w' => e = .returned (.slice (some ⟨w.heap.size, 0, none⟩) 7 7) ∧ w' = w.alloc formRow := by
  go_enter Tryz.func18, Tryz.ntmps18
  go_wp2
  go_ret
  exact ⟨rfl, rfl⟩
theorem form_cell (w wr : World) (hfr : Fr (w.heap.size + 1) (w.alloc formRow) wr) (n : Nat) (h : n < 7) : wr.cell? ⟨w.heap.size, n, none⟩ = some (.int .i8 (formOf n)) := by
  rw [hfr.1.cell (p := ⟨w.heap.size, n, none⟩) (by show w.heap.size < _; omega)]
  unfold World.cell?
  rw [heap_alloc_new]
  match n, h with
  | 0, _ => rfl
  | 1, _ => rfl
  | 2, _ => rfl
  | 3, _ => rfl
  | 4, _ => rfl
  | 5, _ => rfl
  | 6, _ => rfl
set_option maxRecDepth 100000 in
set_option maxHeartbeats 2000000 in
theorem PrepAgain_at (w : World) (ht : HasTab w) (hp : HasPow w) (s : ByteArray) (_hs : s.size ≤ 140737488351232) :
    Calls Tryz.prog 7 #[.string s] w fun e w' => e = .returned (.bool true) ∧ Fr w.heap.size w w' := by
  have hal := fun (w : World) (ht : HasTab w) => alive_any w ht
  have hag := again_any w
  have hfin : ∀ wr : World, Fr (w.heap.size + 1) (w.alloc formRow) wr → Fr w.heap.size w wr := fun wr h => ((Fr.refl _ _).alloc (Nat.le_refl _) _).trans (h.mono (by omega))
  go_enter Tryz.func7, Tryz.ntmps7
  go_wp2_with (go_at_call 18; refine hag.mono ?_; rintro e w1 ⟨rfl, rfl⟩)
  clear hag
  go_loopw [4] (fun i wr => ∃ n : Nat, n ≤ 7 ∧ i = .int .i64 n ∧ Fr (w.heap.size + 1) (w.alloc formRow) wr) (fun i _ => 7 - (intOf i).toNat)
  case atStart => exact ⟨0, by omega, rfl, Fr.refl _ _⟩
  case round =>
    obtain ⟨n, hn, rfl, hfr⟩ := hrel
    have ht1 := ht.step (hfin wr hfr)
    have hp1 := hp.step (hfin wr hfr)
    have hB : w.heap.size + 1 ≤ wr.heap.size := by have := hfr.size; simpa using this
    by_cases hlt : n < 7
    · have hlt' : (n : Int) < 7 := by omega
      have hc1 := form_cell w wr hfr n hlt
      have hk1 := Key_all wr ht1 hp1 (formOf n) s
      have HG : ∀ k, keyL (formOf n) (byt s) = some k → keyL (formOf n) k = some k ∧ k.length ≤ (byt s).length := fun k h => key_again (formOf_again n hlt) h
      rw [byt_length] at HG
      generalize keyL (formOf n) (byt s) = o at *
      cases o with
      | none =>
        go_wp2_with fail
        go_at_call 9
        refine hk1.mono ?_
        rintro e w2 ⟨rfl, f2⟩
        rw [show ans (none : Option (List UInt8)) = .tuple #[.string ⟨#[]⟩, .bool false] from rfl]
        have hc2 := form_cell w w2 (hfr.trans (f2.mono hB)) n hlt
        have hk2 := Key_all w2 (ht1.step f2) (hp1.step f2) (formOf n) ⟨#[]⟩
        generalize keyL (formOf n) (byt ⟨#[]⟩) = o2 at *
        generalize formOf n = F at *
        go_wp2_with fail
        go_at_call 9
        refine hk2.mono ?_
        rintro e w3 ⟨rfl, f3⟩
        simp only [ans]
        go_wp2
        go_roundw
        case rel => exact ⟨n + 1, by omega, by go_num, (hfr.trans (f2.mono hB)).trans (f3.mono (Nat.le_trans hB f2.size))⟩
        case measure => simp [intOf]; omega
      | some k =>
        obtain ⟨g1, g2⟩ := HG k rfl
        clear HG
        obtain ⟨K, hK⟩ : ∃ K, Hid (K = str k) := ⟨str k, rfl⟩
        have hKs : K.size ≤ s.size := by rw [hK.out, str_size]; exact g2
        have hKs' : ¬ ((s.size : Int) < (K.size : Int)) := by omega
        have hk3 := fun w ht hp => Key_all w ht hp (formOf n) K
        have hKb : byt K = k := by rw [hK.out, byt_str]
        rw [hKb, g1, show ans (some k) = .tuple #[.string (str k), .bool true] from rfl, ← hK.out] at hk3
        rw [show ans (some k) = .tuple #[.string (str k), .bool true] from rfl, ← hK.out] at hk1
        clear g1 g2 hKb
        go_wp2_with fail
        go_at_call 9
        refine hk1.mono ?_
        rintro e w2 ⟨rfl, f2⟩
        have hc2 := form_cell w w2 (hfr.trans (f2.mono hB)) n hlt
        have hk2 := hk3 w2 (ht1.step f2) (hp1.step f2)
        clear hk3 hk1
        generalize formOf n = F at *
        go_wp2_with fail
        go_at_call 9
        refine hk2.mono ?_
        rintro e w3 ⟨rfl, f3⟩
        go_wp2
        go_roundw
        case rel => exact ⟨n + 1, by omega, by go_num, (hfr.trans (f2.mono hB)).trans (f3.mono (Nat.le_trans hB f2.size))⟩
        case measure => simp [intOf]; omega
    · have hlt' : ¬ (n : Int) < 7 := by omega
      go_wp2_with (go_at_call 11; refine (hal _ ht1).mono ?_; rintro e w9 ⟨rfl, f9⟩)
      go_ret
      exact ⟨rfl, (hfin wr hfr).then f9⟩
end Go.Proofs.YtimjmecogbkgfaaGreatDoor

/-
  The listed powers of ten, read as their initialiser lays them.
-/
namespace Go.Proofs.YtimjmecogbkgfaaGreatDoor
open Go.ChangeShapes Go.WideShapes Go.ChangeAt Go.RowKit

theorem gPowType : (Tryz.prog.globals[4]?).map (·.type) = some 138 := by kernel_rfl
theorem laid_pow : (Rows.laid_internal_strconv_uint64pow10 : DataW Unit) = Lib.tabData .u64 Lib.pow10Tab := rfl
theorem cellsU64 : Tryz.prog.cellsOf 132 = 1 := by kernel_rfl
theorem cellsPow : Tryz.prog.cellsOf 138 = 20 := by kernel_rfl
theorem pow_of_reads {W : World} (hV : VarRd Tryz.prog W "internal/strconv.uint64pow10" Rows.laid_internal_strconv_uint64pow10) : HasPow W := by
  obtain ⟨g, t, cs, fuel, p, h1, h2, h3, h4⟩ := hV
  obtain rfl := Option.some.inj (gPow.symm.trans h1)
  obtain rfl := Option.some.inj (gPowType.symm.trans h2)
  rw [laid_pow] at h4
  have h5 := Lib.cells_of_tab Tryz.underlying138 Tryz.underlying132 cellsU64 cellsPow h4
  unfold HasPow Lib.TabIs
  rw [h3, ← h5]
theorem pow_of {W : World} {l : List (String × DataW Unit)} (hL : laidMet Tryz.prog l W) (hm : ("internal/strconv.uint64pow10", Rows.laid_internal_strconv_uint64pow10) ∈ l) : HasPow W := by
  obtain ⟨_, hv, _⟩ := hL
  exact pow_of_reads (laid_rd hv hm)
end Go.Proofs.YtimjmecogbkgfaaGreatDoor
