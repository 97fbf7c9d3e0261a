/-
  PrepKnown: the law's walk.
-/
import Derived.Test.YtimjmecogbkgfabGreatDoorKnownKToKnownM
import Derived.Test.YtimjmecogbkgfabGreatDoorAliveToReads
import Derived.Test.YtimjmecogbkgfabGreatDoorPadToPord
namespace Go.Proofs.YtimjmecogbkgfabGreatDoor
open Go.RowKit

set_option maxRecDepth 100000 in
set_option maxHeartbeats 8000000 in
theorem PrepKnown_at (w : World) (ht : HasTab w) (hp : HasPow w) :
    Calls Tryz.prog 3 #[] w fun e w' => e = .returned (.bool true) ∧ Fr w.heap.size w w' := by
  have hF : Fr w.heap.size w w := Fr.refl _ _
  have p5 := fun (w : World) (ht : HasTab w) => piece_lit w ht 0 1 (by decide) (by decide) ⟨#[32, 65, 32]⟩ (by decide) (some [32, 97, 32]) (by decide +kernel)
  have p6 := fun (w : World) (ht : HasTab w) => piece_lit w ht 0 2 (by decide) (by decide) ⟨#[32, 65, 32]⟩ (by decide) (some [32, 97]) (by decide +kernel)
  have p7 := fun (w : World) (ht : HasTab w) => piece_lit w ht 0 0 (by decide) (by decide) ⟨#[32]⟩ (by decide) (some []) (by decide +kernel)
  have p8 := fun (w : World) => Piece4_no w ⟨#[49]⟩
  have p9 := fun (w : World) (ht : HasTab w) => piece_lit w ht 2 1 (by decide) (by decide) ⟨#[97]⟩ (by decide) none (by decide +kernel)
  have a10 := fun (w : World) => add_lit w ⟨#[53]⟩ ⟨#[45, 55]⟩ (by decide) (by decide) (some [45, 50]) (by decide +kernel)
  have a11 := fun (w : World) => add_lit w ⟨#[45, 53]⟩ ⟨#[53]⟩ (by decide) (by decide) (some [48]) (by decide +kernel)
  have a12 := fun (w : World) => add_lit w ⟨#[49]⟩ ⟨#[48, 49]⟩ (by decide) (by decide) none (by decide +kernel)
  have s1 := fun (w : World) => sound_lit w ⟨#[82, 111, 98, 101, 114, 116, 32, 82, 117, 112, 101, 114, 116]⟩ (by decide) [82, 49, 54, 51, 32, 82, 49, 54, 51] (by decide +kernel)
  have s2 := fun (w : World) => sound_lit w ⟨#[80, 102, 105, 115, 116, 101, 114]⟩ (by decide) [80, 50, 51, 54] (by decide +kernel)
  have s3 := fun (w : World) => sound_lit w ⟨#[49, 50]⟩ (by decide) [] (by decide +kernel)
  have s4 := fun (w : World) => sound_lit w ⟨#[97, 45, 98]⟩ (by decide) [65, 48, 48, 48, 32, 66, 48, 48, 48] (by decide +kernel)
  simp only [ans_some, ans_none, str] at p5 p6 p7 p8 p9 a10 a11 a12 s1 s2 s3 s4
  go_enter Tryz.func3, Tryz.ntmps3
  go_upto_region 1 with fail
  go_cut [1] from 31 to 43 (fun s1 wx => s1 = .bool true ∧ Fr w.heap.size w wx)
  case first =>
    go_wp2_with (go_at_call 4; refine (key_lit _ (ht.step hF) (hp.step hF) _ _ _ (by decide +kernel)).mono ?_; rintro e w1 ⟨rfl, f1⟩; replace hF := hF.then f1; clear f1)
    go_meet
    exact ⟨rfl, hF⟩
  clear hF
  obtain ⟨rfl, hF⟩ := hcut
  go_upto_region 2 with fail
  go_cut [2] from 44 to 65 (fun s2 wx => s2 = .bool true ∧ Fr w.heap.size w wx)
  case first =>
    go_wp2_with (go_at_call 4; refine (key_lit _ (ht.step hF) (hp.step hF) _ _ _ (by decide +kernel)).mono ?_; rintro e w1 ⟨rfl, f1⟩; replace hF := hF.then f1; clear f1)
    go_meet
    exact ⟨rfl, hF⟩
  clear hF
  obtain ⟨rfl, hF⟩ := hcut
  go_upto_region 3 with fail
  go_cut [3] from 66 to 78 (fun s3 wx => s3 = .bool true ∧ Fr w.heap.size w wx)
  case first =>
    go_wp2_with (go_at_call 4; refine (key_lit _ (ht.step hF) (hp.step hF) _ _ _ (by decide +kernel)).mono ?_; rintro e w1 ⟨rfl, f1⟩; replace hF := hF.then f1; clear f1)
    go_meet
    exact ⟨rfl, hF⟩
  clear hF
  obtain ⟨rfl, hF⟩ := hcut
  go_upto_region 4 with fail
  go_cut [4] from 79 to 100 (fun s4 wx => s4 = .bool true ∧ Fr w.heap.size w wx)
  case first =>
    go_wp2_with (go_at_call 4; refine (key_lit _ (ht.step hF) (hp.step hF) _ _ _ (by decide +kernel)).mono ?_; rintro e w1 ⟨rfl, f1⟩; replace hF := hF.then f1; clear f1)
    go_meet
    exact ⟨rfl, hF⟩
  clear hF
  obtain ⟨rfl, hF⟩ := hcut
  go_upto_region 5 with fail
  go_cut [5, 6] from 101 to 104 (fun s5 s6 wx => s5 = .string ⟨#[32, 97, 32]⟩ ∧ s6 = .bool true ∧ Fr w.heap.size w wx)
  case first =>
    go_wp2_with (go_at_call 5; refine (p5 _ (ht.step hF)).mono ?_; rintro e w1 ⟨rfl, f1⟩; replace hF := hF.then f1; clear f1)
    go_meet
    exact ⟨rfl, rfl, hF⟩
  clear hF
  obtain ⟨rfl, rfl, hF⟩ := hcut
  go_upto_region 6 with fail
  go_cut [7, 8] from 105 to 108 (fun s7 s8 wx => s7 = .string ⟨#[32, 97]⟩ ∧ s8 = .bool true ∧ Fr w.heap.size w wx)
  case first =>
    go_wp2_with (go_at_call 5; refine (p6 _ (ht.step hF)).mono ?_; rintro e w1 ⟨rfl, f1⟩; replace hF := hF.then f1; clear f1)
    go_meet
    exact ⟨rfl, rfl, hF⟩
  clear hF
  obtain ⟨rfl, rfl, hF⟩ := hcut
  go_upto_region 7 with fail
  go_cut [9, 10] from 109 to 112 (fun s9 s10 wx => s9 = .string ⟨#[]⟩ ∧ s10 = .bool true ∧ Fr w.heap.size w wx)
  case first =>
    go_wp2_with (go_at_call 5; refine (p7 _ (ht.step hF)).mono ?_; rintro e w1 ⟨rfl, f1⟩; replace hF := hF.then f1; clear f1)
    go_meet
    exact ⟨rfl, rfl, hF⟩
  clear hF
  obtain ⟨rfl, rfl, hF⟩ := hcut
  go_upto_region 8 with fail
  go_cut [11, 12] from 113 to 116 (fun s11 s12 wx => s11 = .string ⟨#[]⟩ ∧ s12 = .bool false ∧ Fr w.heap.size w wx)
  case first =>
    go_wp2_with (go_at_call 5; refine (p8 _).mono ?_; rintro e w1 ⟨rfl, f1⟩; replace hF := hF.then f1; clear f1)
    go_meet
    exact ⟨rfl, rfl, hF⟩
  clear hF
  obtain ⟨rfl, rfl, hF⟩ := hcut
  go_upto_region 9 with fail
  go_cut [13, 14] from 117 to 120 (fun s13 s14 wx => s13 = .string ⟨#[]⟩ ∧ s14 = .bool false ∧ Fr w.heap.size w wx)
  case first =>
    go_wp2_with (go_at_call 5; refine (p9 _ (ht.step hF)).mono ?_; rintro e w1 ⟨rfl, f1⟩; replace hF := hF.then f1; clear f1)
    go_meet
    exact ⟨rfl, rfl, hF⟩
  clear hF
  obtain ⟨rfl, rfl, hF⟩ := hcut
  go_upto_region 10 with fail
  go_cut [15, 16] from 121 to 124 (fun s15 s16 wx => s15 = .string ⟨#[45, 50]⟩ ∧ s16 = .bool true ∧ Fr w.heap.size w wx)
  case first =>
    go_wp2_with (go_at_call 6; refine (a10 _).mono ?_; rintro e w1 ⟨rfl, f1⟩; replace hF := hF.then f1; clear f1)
    go_meet
    exact ⟨rfl, rfl, hF⟩
  clear hF
  obtain ⟨rfl, rfl, hF⟩ := hcut
  go_upto_region 11 with fail
  go_cut [17, 18] from 125 to 128 (fun s17 s18 wx => s17 = .string ⟨#[48]⟩ ∧ s18 = .bool true ∧ Fr w.heap.size w wx)
  case first =>
    go_wp2_with (go_at_call 6; refine (a11 _).mono ?_; rintro e w1 ⟨rfl, f1⟩; replace hF := hF.then f1; clear f1)
    go_meet
    exact ⟨rfl, rfl, hF⟩
  clear hF
  obtain ⟨rfl, rfl, hF⟩ := hcut
  go_upto_region 12 with fail
  go_cut [19, 20] from 129 to 132 (fun s19 s20 wx => s19 = .string ⟨#[]⟩ ∧ s20 = .bool false ∧ Fr w.heap.size w wx)
  case first =>
    go_wp2_with (go_at_call 6; refine (a12 _).mono ?_; rintro e w1 ⟨rfl, f1⟩; replace hF := hF.then f1; clear f1)
    go_meet
    exact ⟨rfl, rfl, hF⟩
  clear hF
  obtain ⟨rfl, rfl, hF⟩ := hcut
  go_upto_region 13 with fail
  go_cut [21] from 133 to 165 (fun s21 wx => s21 = .bool true ∧ Fr w.heap.size w wx)
  case first =>
    go_wp2_with fail
    go_meet
    exact ⟨rfl, hF⟩
  clear hF
  obtain ⟨rfl, hF⟩ := hcut
  go_upto_region 14 with fail
  go_cut [22] from 166 to 179 (fun s22 wx => s22 = .bool true ∧ Fr w.heap.size w wx)
  case first =>
    go_wp2_with (go_at_call 7; (first | with_reducible refine (s1 _).mono ?_ | with_reducible refine (s2 _).mono ?_ | with_reducible refine (s3 _).mono ?_ | with_reducible refine (s4 _).mono ?_); rintro e w1 ⟨rfl, f1⟩; replace hF := hF.then f1; clear f1)
    go_meet
    exact ⟨rfl, hF⟩
  clear hF
  obtain ⟨rfl, hF⟩ := hcut
  go_upto_region 15 with fail
  go_cut [23] from 180 to 198 (fun s23 wx => s23 = .bool true ∧ Fr w.heap.size w wx)
  case first =>
    go_wp2_with (go_at_call 4; refine (key_lit _ (ht.step hF) (hp.step hF) _ _ _ (by decide +kernel)).mono ?_; rintro e w1 ⟨rfl, f1⟩; replace hF := hF.then f1; clear f1)
    go_meet
    exact ⟨rfl, hF⟩
  clear hF
  obtain ⟨rfl, hF⟩ := hcut
  clear p5 p6 p7 p8 p9 a10 a11 a12 s1 s2 s3 s4
  obtain ⟨n, hn⟩ : ∃ n : Nat, Hid (n = 65536) := ⟨65536, rfl⟩
  obtain ⟨N9, h9⟩ : ∃ N9, Hid (N9 = str (ninesL n)) := ⟨_, rfl⟩
  have hC : (65536 : Int) = (n : Int) := by rw [hn.out]; rfl
  have hn2 : n ≤ 281474976710656 := by rw [hn.out]; decide
  go_wp2_with (at_make; refine wpList_make_n rfl _ _ rfl _ n rfl rfl hC hn2 ?_; intro cs hcs; have hz := nine_start wc cs n hcs; have hf0 : Fr wc.heap.size wc _ := Fr.one (Obj.cells cs 5); clear hcs)
  clear hC
  go_loopw [25] (fun i wr => ∃ k : Nat, k ≤ n ∧ i = .int .i64 k ∧ NineTo wr wc.heap.size n k ∧ Fr wc.heap.size wc wr) (fun i _ => n - (intOf i).toNat)
  case atStart => exact ⟨0, Nat.zero_le _, rfl, hz, hf0⟩
  case round =>
    clear hz hf0
    obtain ⟨k, hk, rfl, hz, hf0⟩ := hrel
    by_cases hlt : k < n
    · have hlt' : (k : Int) < (n : Int) := by omega
      obtain ⟨u, hu⟩ := nine_cell hz hlt
      have hz2 := nine_step hz hlt
      have hfz := nine_frozen hz k
      have hf2 := hf0.setAbove (g := wc.heap.size) (i := k) (Nat.le_refl _) (.int .u8 57)
      go_wp2
      go_roundw
      case rel => exact ⟨k + 1, by omega, by go_num, hz2, hf2⟩
      case measure => simp [intOf]; omega
    · have hlt' : ¬ (k : Int) < (n : Int) := by omega
      obtain rfl : k = n := by omega
      have HF : Fr w.heap.size w wr := hF.then hf0
      have hcv : ∀ W, Fr wr.heap.size wr W → (convert 28 9 (.slice (some ⟨wc.heap.size, 0, none⟩) k k)).run Tryz.prog W = .ok (.string N9) W := fun W h => by rw [h9.out]; exact nine_conv (nine_keep hz h)
      clear hz hf0 hF hk hlt
      obtain ⟨L, K, hL, hLx, hK, c21, c22, c23⟩ := nines_calls k hn.out N9 h9.out
      have hT := ht.step HF
      have hP := hp.step HF
      have hR : Fr wr.heap.size wr wr := Fr.refl _ _
      clear hn h9 ht hp
      go_upto_region 21 with fail
      go_cut [26, 27] from 209 to 214 (fun s26 s27 wx => s26 = .string ⟨#[]⟩ ∧ s27 = .bool false ∧ Fr wr.heap.size wr wx)
      case first =>
        have h1 := hcv _ hR
        go_wp2_with (go_at_call 6; refine (c21 _).mono ?_; rintro e w1 ⟨rfl, f1⟩; replace hR := hR.then f1)
        go_meet
        exact ⟨rfl, rfl, hR⟩
      clear hR
      obtain ⟨rfl, rfl, hR⟩ := hcut
      go_upto_region 22 with fail
      go_cut [28, 29] from 215 to 220 (fun s28 s29 wx => s28 = .string L ∧ s29 = .bool true ∧ Fr wr.heap.size wr wx)
      case first =>
        have h1 := hcv _ hR
        go_wp2_with (go_at_call 6; refine (c22 _).mono ?_; rintro e w1 ⟨rfl, f1⟩; replace hR := hR.then f1)
        go_meet
        exact ⟨rfl, rfl, hR⟩
      clear hR
      obtain ⟨rfl, rfl, hR⟩ := hcut
      go_upto_region 23 with fail
      go_cut [30, 12] from 221 to 226 (fun s30 s12 wx => s30 = .string K ∧ s12 = .bool true ∧ Fr wr.heap.size wr wx)
      case first =>
        have h1 := hcv _ hR
        have h2 := c23 _ (hT.step hR) (hP.step hR)
        go_wp2_with (go_at_call 8; refine h2.mono ?_; rintro e w1 ⟨rfl, f1⟩; replace hR := hR.then f1)
        go_meet
        exact ⟨rfl, rfl, hR⟩
      clear hR
      obtain ⟨rfl, rfl, hR⟩ := hcut
      clear c21 c22 c23 hcv
      go_upto_region 24 with fail
      go_cut [23] from 227 to 252 (fun s23 wx => s23 = .bool true ∧ Fr wr.heap.size wr wx)
      case first =>
        have hL2 : (L.size : Int) = 65536 := by omega
        have hK2 : (K.size : Int) = 65540 := by omega
        have hl3 : 65535 < L.size := by omega
        have hl4 := hLx hl3
        go_wp2
        go_meet
        exact ⟨rfl, hR⟩
      clear hR
      obtain ⟨rfl, hR⟩ := hcut
      clear hL hLx hK
      go_wp2_with (go_at_call 9; refine (alive_any _ (hT.step hR)).mono ?_; rintro e w1 ⟨rfl, f1⟩; replace hR := hR.then f1)
      go_ret
      exact ⟨rfl, HF.then hR⟩
end Go.Proofs.YtimjmecogbkgfabGreatDoor

/-
  The listed powers of ten, read as their initialiser lays them.
-/
namespace Go.Proofs.YtimjmecogbkgfabGreatDoor
open Go.ChangeShapes Go.WideShapes Go.ChangeAt Go.RowKit

theorem gPowType : (Tryz.prog.globals[4]?).map (·.type) = some 126 := by kernel_rfl
theorem laid_pow : (Rows.laid_internal_strconv_uint64pow10 : DataW Unit) = Lib.tabData .u64 Lib.pow10Tab := rfl
theorem cellsU64 : Tryz.prog.cellsOf 120 = 1 := by kernel_rfl
theorem cellsPow : Tryz.prog.cellsOf 126 = 20 := by kernel_rfl
theorem pow_of_reads {W : World} (hV : VarRd Tryz.prog W "internal/strconv.uint64pow10" Rows.laid_internal_strconv_uint64pow10) : HasPow W := by
  obtain ⟨g, t, cs, fuel, p, h1, h2, h3, h4⟩ := hV
  obtain rfl := Option.some.inj (gPow.symm.trans h1)
  obtain rfl := Option.some.inj (gPowType.symm.trans h2)
  rw [laid_pow] at h4
  have h5 := Lib.cells_of_tab Tryz.underlying126 Tryz.underlying120 cellsU64 cellsPow h4
  unfold HasPow Lib.TabIs
  rw [h3, ← h5]
theorem pow_of {W : World} {l : List (String × DataW Unit)} (hL : laidMet Tryz.prog l W) (hm : ("internal/strconv.uint64pow10", Rows.laid_internal_strconv_uint64pow10) ∈ l) : HasPow W := by
  obtain ⟨_, hv, _⟩ := hL
  exact pow_of_reads (laid_rd hv hm)
end Go.Proofs.YtimjmecogbkgfabGreatDoor
