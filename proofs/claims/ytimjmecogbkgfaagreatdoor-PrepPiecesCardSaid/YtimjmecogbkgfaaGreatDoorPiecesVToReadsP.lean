/-
  PrepPieces: the law's walk.
-/
import Derived.Test.YtimjmecogbkgfaaGreatDoorRPiece
import Derived.Test.YtimjmecogbkgfaaGreatDoorAliveToReads
import Derived.Test.YtimjmecogbkgfaaGreatDoorPadToPord
namespace Go.Proofs.YtimjmecogbkgfaaGreatDoor
open Go.RowKit

set_option maxRecDepth 100000 in
set_option maxHeartbeats 2000000 in
theorem PrepPieces_at (w : World) (ht : HasTab w) (_hp : HasPow w) (s : ByteArray) (_hs : s.size ≤ 140737488351232) :
    Calls Tryz.prog 4 #[.string s] w fun e w' => e = .returned (.bool true) ∧ Fr w.heap.size w w' := by
  have hal := fun (w : World) (ht : HasTab w) => alive_any w ht
  go_enter Tryz.func4, Tryz.ntmps4
  go_wp2
  go_loopw [3] (fun i wr => ∃ f : Int, -1 ≤ f ∧ f ≤ 11 ∧ i = .int .i8 f ∧ Fr w.heap.size w wr) (fun i _ => (11 - intOf i).toNat)
  case atStart => exact ⟨-1, by omega, by omega, rfl, Fr.refl _ _⟩
  case round =>
    obtain ⟨f, hf0, hf1, rfl, hfr⟩ := hrel
    have ht1 := ht.step hfr
    by_cases hlt : f < 11
    · go_wp2
      go_loopw [4] (fun i wx => ∃ h : Int, -1 ≤ h ∧ h ≤ 4 ∧ i = .int .i8 h ∧ Fr w.heap.size w wx) (fun i _ => (4 - intOf i).toNat)
      case atStart => exact ⟨-1, by omega, by omega, rfl, hfr⟩
      case round =>
        obtain ⟨h, hh0, hh1, rfl, hfx⟩ := hrel
        have ht2 := ht.step hfx
        by_cases hlh : h < 4
        · have p1 := fun w ht => Piece_all w ht f h s
          have p2 := fun w => RPiece_any w f h s
          generalize pieceL f h (byt s) = o at *
          simp only [ans] at p1 p2
          generalize str (o.getD []) = Z at *
          generalize o.isSome = B at *
          go_wp2_with fail
          go_at_call 12
          refine (p1 _ ht2).mono ?_
          rintro e w2 ⟨rfl, f2⟩
          go_wp2_with fail
          go_at_call 13
          refine (p2 _).mono ?_
          rintro e w3 ⟨rfl, f3⟩
          cases B with
          | true =>
            go_wp2
            go_roundw
            case rel => exact ⟨h + 1, by omega, by omega, by go_num, (hfx.then f2).then f3⟩
            case measure => simp [intOf]; omega
          | false =>
            go_wp2
            go_roundw
            case rel => exact ⟨h + 1, by omega, by omega, by go_num, (hfx.then f2).then f3⟩
            case measure => simp [intOf]; omega
        · go_wp2
          go_roundw
          case rel => exact ⟨f + 1, by omega, by omega, by go_num, hfx⟩
          case measure => simp [intOf]; omega
    · go_wp2_with (go_at_call 11; refine (hal _ ht1).mono ?_; rintro e w9 ⟨rfl, f9⟩)
      go_ret
      exact ⟨rfl, hfr.then f9⟩
end Go.Proofs.YtimjmecogbkgfaaGreatDoor

/-
  The listed powers of ten, read as their initialiser lays them.
-/
namespace Go.Proofs.YtimjmecogbkgfaaGreatDoor
open Go.ChangeShapes Go.WideShapes Go.ChangeAt Go.RowKit

theorem gPowType : (Tryz.prog.globals[4]?).map (·.type) = some 138 := by kernel_rfl
theorem laid_pow : (Rows.laid_internal_strconv_uint64pow10 : DataW Unit) = Lib.tabData .u64 Lib.pow10Tab := rfl
theorem cellsU64 : Tryz.prog.cellsOf 132 = 1 := by kernel_rfl
theorem cellsPow : Tryz.prog.cellsOf 138 = 20 := by kernel_rfl
theorem pow_of_reads {W : World} (hV : VarRd Tryz.prog W "internal/strconv.uint64pow10" Rows.laid_internal_strconv_uint64pow10) : HasPow W := by
  obtain ⟨g, t, cs, fuel, p, h1, h2, h3, h4⟩ := hV
  obtain rfl := Option.some.inj (gPow.symm.trans h1)
  obtain rfl := Option.some.inj (gPowType.symm.trans h2)
  rw [laid_pow] at h4
  have h5 := Lib.cells_of_tab Tryz.underlying138 Tryz.underlying132 cellsU64 cellsPow h4
  unfold HasPow Lib.TabIs
  rw [h3, ← h5]
theorem pow_of {W : World} {l : List (String × DataW Unit)} (hL : laidMet Tryz.prog l W) (hm : ("internal/strconv.uint64pow10", Rows.laid_internal_strconv_uint64pow10) ∈ l) : HasPow W := by
  obtain ⟨_, hv, _⟩ := hL
  exact pow_of_reads (laid_rd hv hm)
end Go.Proofs.YtimjmecogbkgfaaGreatDoor
