/-
  strings.IndexRune of a rune above 127, in the signs of phones' numbers.
-/
import Derived.Test.YtfiijlmpfpmgiaaGreatDoorShelfToStrs
import Derived.Test.YtfiijlmpfpmgiaaGreatDoorSpKToNumA
import Derived.WalkMore
import Derived.LoopN
import Derived.Shelf.Small.Strs
import Derived.Scope
namespace Go.Proofs.YtfiijlmpfpmgiaaGreatDoor
open Go.RowKit

set_option maxRecDepth 100000 in
theorem ValidRune_hi (w : World) (r : Int) (h : (128 ≤ r ∧ r < 55296) ∨ (57343 < r ∧ r ≤ 1114111)) :
    Calls Tryz.prog 145 #[.int .i32 r] w fun e w' => e = .returned (.bool true) ∧ w' = w := by
  rcases h with ⟨h0, h1⟩ | ⟨h0, h1⟩
  · have g0 : (0 : Int) ≤ r := by omega
    go_enter Tryz.func145, Tryz.ntmps145
    go_wp2
    go_ret
    exact ⟨rfl, rfl⟩
  · have g0 : (0 : Int) ≤ r := by omega
    have g1 : ¬ r < 55296 := by omega
    go_enter Tryz.func145, Tryz.ntmps145
    go_wp2
    go_ret
    exact ⟨rfl, rfl⟩
theorem all256R {p : UInt8 → Prop} (h : ∀ n, n < 256 → p (UInt8.ofNat n)) (b : UInt8) : p b := by
  have := h b.toNat b.toNat_lt
  rwa [UInt8.ofNat_toNat] at this
theorem idx_none : ∀ (l : List UInt8) (b : UInt8), (∀ x ∈ l, x ≠ b) → Lib.indexByte l b = -1
  | [], _, _ => rfl
  | x :: l, b, h => by
    unfold Lib.indexByte
    have hx : (x == b) = false := by simpa using h x (by simp)
    rw [hx, idx_none l b (fun y hy => h y (by simp [hy]))]
    rfl
theorem idx_high (l : List UInt8) (hl : l.all (fun x => decide (x.toNat < 128)) = true) (b : UInt8) (h : 128 ≤ b.toNat) : Lib.indexByte l b = -1 := by
  refine idx_none l b (fun x hx e => ?_)
  have := (List.all_eq_true.1 hl) x hx
  subst e
  simp only [decide_eq_true_eq] at this
  omega
theorem IndexByte_any (w : World) (s : ByteArray) (c : Int) :
    Calls Tryz.prog 59 #[.string s, .int .u8 c] w fun e w' => e = .returned (.int .i64 (Lib.indexByte s.data.toList c.toNat.toUInt8)) ∧ w' = w :=
  Any.strings_IndexByte ({ Tryz.lays152 with } : Lays.n137 Tryz.prog Tryz.lays152_ren) s c w
theorem enc_hi (r : Int) (h : 128 ≤ r) : (∃ a b : UInt8, Utf8.encode r = ⟨#[a, b]⟩ ∧ 128 ≤ b.toNat) ∨ (∃ a b c : UInt8, Utf8.encode r = ⟨#[a, b, c]⟩ ∧ 128 ≤ c.toNat) ∨ (∃ a b c d : UInt8, Utf8.encode r = ⟨#[a, b, c, d]⟩ ∧ 128 ≤ d.toNat) := by
  have last : ∀ n : Nat, 128 ≤ (UInt8.ofNat (128 + n % 64)).toNat := by
    intro n
    have : 128 + n % 64 < 256 := by omega
    simp [Nat.mod_eq_of_lt this]
  unfold Utf8.encode
  obtain ⟨c, hc⟩ : ∃ c : Nat, (if Utf8.valid r then r.toNat else Utf8.runeError) = c := ⟨_, rfl⟩
  have hc2 : ¬ c < 128 := by
    rw [← hc]
    split
    · omega
    · decide
  simp only [hc]
  rw [if_neg hc2]
  split
  · exact Or.inl ⟨_, _, rfl, last c⟩
  · split
    · exact Or.inr (Or.inl ⟨_, _, _, rfl, last c⟩)
    · exact Or.inr (Or.inr ⟨_, _, _, _, rfl, last c⟩)
theorem mixedR : Tryz.prog.follows Departure.mixedOrders = true := by kernel_rfl
set_option maxRecDepth 100000 in
set_option maxHeartbeats 2000000 in
theorem IndexRune_hi (w : World) (r : Int) (h : (128 ≤ r ∧ r < 55296) ∨ (57343 < r ∧ r ≤ 1114111)) (hr : r ≠ 65533) :
    Calls Tryz.prog 104 #[.string ⟨#[39, 40, 41, 43, 44, 45, 46, 47, 58, 63, 61]⟩, .int .i32 r] w fun e w' => e = .returned (.int .i64 (-1)) ∧ Fr w.heap.size w w' := by
  have hv := fun w => ValidRune_hi w r h
  have g0 : (0 : Int) ≤ r := by omega
  have g1 : ¬ r < 128 := by omega
  have g2 : (r == 65533) = false := by simpa using hr
  have mixed := mixedR
  rcases enc_hi r (by omega) with ⟨a, b, he, hl⟩ | ⟨a, b, c, he, hl⟩ | ⟨a, b, c, d, he, hl⟩
  · have hix : ∀ w, Calls Tryz.prog 59 #[.string ((⟨#[39, 40, 41, 43, 44, 45, 46, 47, 58, 63, 61]⟩ : ByteArray).extract 2 11), .int .u8 (((⟨#[a, b]⟩ : ByteArray)[1]'(by exact (by decide : 1 < 2))).toNat : Int)] w fun e w' => e = .returned (.int .i64 (-1)) ∧ w' = w := by
      intro w
      have hx := IndexByte_any w ((⟨#[39, 40, 41, 43, 44, 45, 46, 47, 58, 63, 61]⟩ : ByteArray).extract 2 11) (((⟨#[a, b]⟩ : ByteArray)[1]'(by exact (by decide : 1 < 2))).toNat : Int)
      have hq : Lib.indexByte ((⟨#[39, 40, 41, 43, 44, 45, 46, 47, 58, 63, 61]⟩ : ByteArray).extract 2 11).data.toList ((((⟨#[a, b]⟩ : ByteArray)[1]'(by exact (by decide : 1 < 2))).toNat : Int)).toNat.toUInt8 = -1 := by
        refine idx_high _ (by decide +kernel) _ ?_
        show 128 ≤ ((b.toNat : Int)).toNat.toUInt8.toNat
        simpa using hl
      rw [hq] at hx
      exact hx
    have n1 : (((⟨#[39, 40, 41, 43, 44, 45, 46, 47, 58, 63, 61]⟩ : ByteArray)[1].toNat : Int) != (((⟨#[a, b]⟩ : ByteArray)[1]'(by exact (by decide : 1 < 2))).toNat : Int)) = true := by
      show ((40 : Int) != (b.toNat : Int)) = true
      simp only [bne_iff_ne, ne_eq]
      omega
    clear hr h hl
    go_enter Tryz.func104, Tryz.ntmps104
    go_wp2_with fail
    go_at_call 145
    refine (hv _).mono ?_
    rintro e w1 ⟨rfl, rfl⟩
    go_wp2
    go_step3
    go_wp2
    refine wp_loop_rounds 1 ?_
    rw [rounds_succ]
    go_wp2
    go_step3
    go_wp2
    go_region_o
    go_wp2
    go_region_with_o (go_at_call 59; refine (hix _).mono ?_; rintro e w2 ⟨rfl, rfl⟩)
    all_goals go_wp2
    all_goals
      simp only [Exit.noGoto, Exit.inBlock, Exit.then]
      go_ret
      exact ⟨rfl, (Fr.refl _ _).drew.drew⟩
  · have hix : ∀ w, Calls Tryz.prog 59 #[.string ((⟨#[39, 40, 41, 43, 44, 45, 46, 47, 58, 63, 61]⟩ : ByteArray).extract 3 11), .int .u8 (((⟨#[a, b, c]⟩ : ByteArray)[2]'(by exact (by decide : 2 < 3))).toNat : Int)] w fun e w' => e = .returned (.int .i64 (-1)) ∧ w' = w := by
      intro w
      have hx := IndexByte_any w ((⟨#[39, 40, 41, 43, 44, 45, 46, 47, 58, 63, 61]⟩ : ByteArray).extract 3 11) (((⟨#[a, b, c]⟩ : ByteArray)[2]'(by exact (by decide : 2 < 3))).toNat : Int)
      have hq : Lib.indexByte ((⟨#[39, 40, 41, 43, 44, 45, 46, 47, 58, 63, 61]⟩ : ByteArray).extract 3 11).data.toList ((((⟨#[a, b, c]⟩ : ByteArray)[2]'(by exact (by decide : 2 < 3))).toNat : Int)).toNat.toUInt8 = -1 := by
        refine idx_high _ (by decide +kernel) _ ?_
        show 128 ≤ ((c.toNat : Int)).toNat.toUInt8.toNat
        simpa using hl
      rw [hq] at hx
      exact hx
    have n1 : (((⟨#[39, 40, 41, 43, 44, 45, 46, 47, 58, 63, 61]⟩ : ByteArray)[2].toNat : Int) != (((⟨#[a, b, c]⟩ : ByteArray)[2]'(by exact (by decide : 2 < 3))).toNat : Int)) = true := by
      show ((41 : Int) != (c.toNat : Int)) = true
      simp only [bne_iff_ne, ne_eq]
      omega
    clear hr h hl
    go_enter Tryz.func104, Tryz.ntmps104
    go_wp2_with fail
    go_at_call 145
    refine (hv _).mono ?_
    rintro e w1 ⟨rfl, rfl⟩
    go_wp2
    go_step3
    go_wp2
    refine wp_loop_rounds 1 ?_
    rw [rounds_succ]
    go_wp2
    go_step3
    go_wp2
    go_region_o
    go_wp2
    go_region_with_o (go_at_call 59; refine (hix _).mono ?_; rintro e w2 ⟨rfl, rfl⟩)
    all_goals go_wp2
    all_goals
      simp only [Exit.noGoto, Exit.inBlock, Exit.then]
      go_ret
      exact ⟨rfl, (Fr.refl _ _).drew.drew⟩
  · have hix : ∀ w, Calls Tryz.prog 59 #[.string ((⟨#[39, 40, 41, 43, 44, 45, 46, 47, 58, 63, 61]⟩ : ByteArray).extract 4 11), .int .u8 (((⟨#[a, b, c, d]⟩ : ByteArray)[3]'(by exact (by decide : 3 < 4))).toNat : Int)] w fun e w' => e = .returned (.int .i64 (-1)) ∧ w' = w := by
      intro w
      have hx := IndexByte_any w ((⟨#[39, 40, 41, 43, 44, 45, 46, 47, 58, 63, 61]⟩ : ByteArray).extract 4 11) (((⟨#[a, b, c, d]⟩ : ByteArray)[3]'(by exact (by decide : 3 < 4))).toNat : Int)
      have hq : Lib.indexByte ((⟨#[39, 40, 41, 43, 44, 45, 46, 47, 58, 63, 61]⟩ : ByteArray).extract 4 11).data.toList ((((⟨#[a, b, c, d]⟩ : ByteArray)[3]'(by exact (by decide : 3 < 4))).toNat : Int)).toNat.toUInt8 = -1 := by
        refine idx_high _ (by decide +kernel) _ ?_
        show 128 ≤ ((d.toNat : Int)).toNat.toUInt8.toNat
        simpa using hl
      rw [hq] at hx
      exact hx
    have n1 : (((⟨#[39, 40, 41, 43, 44, 45, 46, 47, 58, 63, 61]⟩ : ByteArray)[3].toNat : Int) != (((⟨#[a, b, c, d]⟩ : ByteArray)[3]'(by exact (by decide : 3 < 4))).toNat : Int)) = true := by
      show ((43 : Int) != (d.toNat : Int)) = true
      simp only [bne_iff_ne, ne_eq]
      omega
    clear hr h hl
    go_enter Tryz.func104, Tryz.ntmps104
    go_wp2_with fail
    go_at_call 145
    refine (hv _).mono ?_
    rintro e w1 ⟨rfl, rfl⟩
    go_wp2
    go_step3
    go_wp2
    refine wp_loop_rounds 1 ?_
    rw [rounds_succ]
    go_wp2
    go_step3
    go_wp2
    go_region_o
    go_wp2
    go_region_with_o (go_at_call 59; refine (hix _).mono ?_; rintro e w2 ⟨rfl, rfl⟩)
    all_goals go_wp2
    all_goals
      simp only [Exit.noGoto, Exit.inBlock, Exit.then]
      go_ret
      exact ⟨rfl, (Fr.refl _ _).drew.drew⟩

set_option maxRecDepth 100000 in
set_option maxHeartbeats 2000000 in
theorem IndexRune_err (w : World) (s : ByteArray) (hs : s.size ≤ 1000) (ha : ∀ i (h : i < s.size), s[i].toNat < 128) :
    Calls Tryz.prog 104 #[.string s, .int .i32 65533] w fun e w' => e = .returned (.int .i64 (-1)) ∧ Fr w.heap.size w w' := by
  go_enter Tryz.func104, Tryz.ntmps104
  go_wp2
  go_loopg [5, 6] s.size (fun n u v wr => ∃ pos : Nat, pos ≤ s.size ∧ s.size - pos ≤ n ∧ wr.heap[w.heap.size]? = some (.stringIter s pos) ∧ Fr w.heap.size w wr)
  case atStart => exact ⟨0, Nat.zero_le _, by omega, World.iter_heap w s 0, Fr.one _⟩
  case round =>
    obtain ⟨pos, hp, hn, hit, hfr⟩ := hrel
    by_cases hlt : pos < s.size
    · obtain ⟨m, rfl⟩ : ∃ m, gk = m + 1 := ⟨gk - 1, by omega⟩
      have hb := ha pos hlt
      have hnx := fun ty => Lib.run_next_ascii_at (P := Tryz.prog) wr w.heap.size s pos ty hit hlt hb
      have hii := Lib.iterAt_heap wr w.heap.size s pos (pos + 1) hit
      have hfi := hfr.iterAt (Nat.le_refl _) (Nat.le_refl _) s (pos + 1)
      have n1 : ((s[pos].toNat : Int) == 65533) = false := by simp only [beq_eq_false_iff_ne, ne_eq]; omega
      clear hit
      go_wp2
      go_roundg m
      case measure => omega
      case rel => exact ⟨pos + 1, by omega, by omega, hii, hfi⟩
    · have hnx := fun ty => Lib.run_next_end_at (P := Tryz.prog) wr w.heap.size s pos ty hit hlt
      go_wp2
      go_ret
      exact ⟨rfl, hfr⟩
set_option maxRecDepth 100000 in
theorem ContainsRune_any (w : World) (r : Int) (h : (0 ≤ r ∧ r < 55296) ∨ (57343 < r ∧ r ≤ 1114111)) :
    Calls Tryz.prog 233 #[.string ⟨#[39, 40, 41, 43, 44, 45, 46, 47, 58, 63, 61]⟩, .int .i32 r] w fun e w' => e = .returned (.bool (decide (0 ≤ r ∧ r < 128) && phS r.toNat.toUInt8)) ∧ Fr w.heap.size w w' := by
  by_cases h1 : r < 128
  · have hx := Any.strings_ContainsRune_ascii Tryz.lays151 ⟨#[39, 40, 41, 43, 44, 45, 46, 47, 58, 63, 61]⟩ r w (by omega) h1
    refine hx.mono ?_
    rintro e w' ⟨rfl, rfl⟩
    refine ⟨?_, Fr.refl _ _⟩
    congr 3
    rw [show decide (0 ≤ r ∧ r < 128) = true from decide_eq_true (by omega), Bool.true_and]
    generalize r.toNat.toUInt8 = b
    exact all256R (p := fun b => decide (0 ≤ Lib.indexByte (⟨#[39, 40, 41, 43, 44, 45, 46, 47, 58, 63, 61]⟩ : ByteArray).data.toList b) = phS b) (by decide +kernel) b
  · have hI : ∀ w, Calls Tryz.prog 104 #[.string ⟨#[39, 40, 41, 43, 44, 45, 46, 47, 58, 63, 61]⟩, .int .i32 r] w fun e w' => e = .returned (.int .i64 (-1)) ∧ Fr w.heap.size w w' := by
      intro w
      by_cases hr : r = 65533
      · subst hr
        exact IndexRune_err w _ (by decide) (by decide)
      · exact IndexRune_hi w r (by omega) hr
    rw [show decide (0 ≤ r ∧ r < 128) = false from decide_eq_false (by omega), Bool.false_and]
    clear h
    go_enter Tryz.func233, Tryz.ntmps233
    go_wp2_with (go_at_call 104; refine (hI _).mono ?_; rintro e w2 ⟨rfl, hf2⟩)
    go_ret
    exact ⟨rfl, hf2⟩
end Go.Proofs.YtfiijlmpfpmgiaaGreatDoor
