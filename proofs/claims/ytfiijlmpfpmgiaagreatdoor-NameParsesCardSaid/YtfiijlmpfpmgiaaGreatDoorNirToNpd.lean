/-
  strings.IndexAny of any text, in the signs that end a run of a value; how far a run goes, at any text.
-/
import Derived.Test.YtfiijlmpfpmgiaaGreatDoorNrdToNtk
import Derived.Test.YtfiijlmpfpmgiaaGreatDoorPhoneToSrange
import Derived.Test.YtfiijlmpfpmgiaaGreatDoorPdvToNval2
import Derived.Test.YtfiijlmpfpmgiaaGreatDoorNprint
import Derived.Lib.IndexLaws
import Derived.Test.YtfiijlmpfpmgiaaGreatDoorNparseToShelf3
import Derived.Deep.RegionHeld3
import Derived.Test.YtfiijlmpfpmgiaaGreatDoorNrfToNrw
import Derived.Test.YtfiijlmpfpmgiaaGreatDoorNftToNlf
import Derived.Test.YtfiijlmpfpmgiaaGreatDoorNkdToNmv2
import Derived.Test.YtfiijlmpfpmgiaaGreatDoorNrw2
import Derived.Test.YtfiijlmpfpmgiaaGreatDoorStwinToXpush
namespace Go.Proofs.YtfiijlmpfpmgiaaGreatDoor
open Go.RowKit

set_option maxRecDepth 100000 in
set_option maxHeartbeats 2000000 in
theorem IndexRune_hiA (w : World) (r : Int) (h : (128 ≤ r ∧ r < 55296) ∨ (57343 < r ∧ r ≤ 1114111)) (hr : r ≠ 65533) :
    Calls Tryz.prog 104 #[.string ⟨#[34, 43, 44, 59, 60, 62, 92, 0, 32]⟩, .int .i32 r] w fun e w' => e = .returned (.int .i64 (-1)) ∧ Fr w.heap.size w w' := by
  have hv := fun w => ValidRune_hi w r h
  have g0 : (0 : Int) ≤ r := by omega
  have g1 : ¬ r < 128 := by omega
  have g2 : (r == 65533) = false := by simpa using hr
  have mixed := mixedR
  rcases enc_hi r (by omega) with ⟨a, b, he, hl⟩ | ⟨a, b, c, he, hl⟩ | ⟨a, b, c, d, he, hl⟩
  · have hix : ∀ w, Calls Tryz.prog 59 #[.string ((⟨#[34, 43, 44, 59, 60, 62, 92, 0, 32]⟩ : ByteArray).extract 2 9), .int .u8 (((⟨#[a, b]⟩ : ByteArray)[1]'(by exact (by decide : 1 < 2))).toNat : Int)] w fun e w' => e = .returned (.int .i64 (-1)) ∧ w' = w := by
      intro w
      have hx := IndexByte_any w ((⟨#[34, 43, 44, 59, 60, 62, 92, 0, 32]⟩ : ByteArray).extract 2 9) (((⟨#[a, b]⟩ : ByteArray)[1]'(by exact (by decide : 1 < 2))).toNat : Int)
      have hq : Lib.indexByte ((⟨#[34, 43, 44, 59, 60, 62, 92, 0, 32]⟩ : ByteArray).extract 2 9).data.toList ((((⟨#[a, b]⟩ : ByteArray)[1]'(by exact (by decide : 1 < 2))).toNat : Int)).toNat.toUInt8 = -1 := by
        refine idx_high _ (by decide +kernel) _ ?_
        show 128 ≤ ((b.toNat : Int)).toNat.toUInt8.toNat
        simpa using hl
      rw [hq] at hx
      exact hx
    have n1 : (((⟨#[34, 43, 44, 59, 60, 62, 92, 0, 32]⟩ : ByteArray)[1].toNat : Int) != (((⟨#[a, b]⟩ : ByteArray)[1]'(by exact (by decide : 1 < 2))).toNat : Int)) = true := by
      show ((43 : Int) != (b.toNat : Int)) = true
      simp only [bne_iff_ne, ne_eq]
      omega
    clear hr h hl
    go_enter Tryz.func104, Tryz.ntmps104
    go_wp2_with fail
    go_at_call 145
    refine (hv _).mono ?_
    rintro e w1 ⟨rfl, rfl⟩
    go_wp2
    go_step3
    go_wp2
    refine wp_loop_rounds 1 ?_
    rw [rounds_succ]
    go_wp2
    go_step3
    go_wp2
    go_region_o
    go_wp2
    go_region_with_o (go_at_call 59; refine (hix _).mono ?_; rintro e w2 ⟨rfl, rfl⟩)
    all_goals go_wp2
    all_goals
      simp only [Exit.noGoto, Exit.inBlock, Exit.then]
      go_ret
      exact ⟨rfl, (Fr.refl _ _).drew.drew⟩
  · have hix : ∀ w, Calls Tryz.prog 59 #[.string ((⟨#[34, 43, 44, 59, 60, 62, 92, 0, 32]⟩ : ByteArray).extract 3 9), .int .u8 (((⟨#[a, b, c]⟩ : ByteArray)[2]'(by exact (by decide : 2 < 3))).toNat : Int)] w fun e w' => e = .returned (.int .i64 (-1)) ∧ w' = w := by
      intro w
      have hx := IndexByte_any w ((⟨#[34, 43, 44, 59, 60, 62, 92, 0, 32]⟩ : ByteArray).extract 3 9) (((⟨#[a, b, c]⟩ : ByteArray)[2]'(by exact (by decide : 2 < 3))).toNat : Int)
      have hq : Lib.indexByte ((⟨#[34, 43, 44, 59, 60, 62, 92, 0, 32]⟩ : ByteArray).extract 3 9).data.toList ((((⟨#[a, b, c]⟩ : ByteArray)[2]'(by exact (by decide : 2 < 3))).toNat : Int)).toNat.toUInt8 = -1 := by
        refine idx_high _ (by decide +kernel) _ ?_
        show 128 ≤ ((c.toNat : Int)).toNat.toUInt8.toNat
        simpa using hl
      rw [hq] at hx
      exact hx
    have n1 : (((⟨#[34, 43, 44, 59, 60, 62, 92, 0, 32]⟩ : ByteArray)[2].toNat : Int) != (((⟨#[a, b, c]⟩ : ByteArray)[2]'(by exact (by decide : 2 < 3))).toNat : Int)) = true := by
      show ((44 : Int) != (c.toNat : Int)) = true
      simp only [bne_iff_ne, ne_eq]
      omega
    clear hr h hl
    go_enter Tryz.func104, Tryz.ntmps104
    go_wp2_with fail
    go_at_call 145
    refine (hv _).mono ?_
    rintro e w1 ⟨rfl, rfl⟩
    go_wp2
    go_step3
    go_wp2
    refine wp_loop_rounds 1 ?_
    rw [rounds_succ]
    go_wp2
    go_step3
    go_wp2
    go_region_o
    go_wp2
    go_region_with_o (go_at_call 59; refine (hix _).mono ?_; rintro e w2 ⟨rfl, rfl⟩)
    all_goals go_wp2
    all_goals
      simp only [Exit.noGoto, Exit.inBlock, Exit.then]
      go_ret
      exact ⟨rfl, (Fr.refl _ _).drew.drew⟩
  · have hix : ∀ w, Calls Tryz.prog 59 #[.string ((⟨#[34, 43, 44, 59, 60, 62, 92, 0, 32]⟩ : ByteArray).extract 4 9), .int .u8 (((⟨#[a, b, c, d]⟩ : ByteArray)[3]'(by exact (by decide : 3 < 4))).toNat : Int)] w fun e w' => e = .returned (.int .i64 (-1)) ∧ w' = w := by
      intro w
      have hx := IndexByte_any w ((⟨#[34, 43, 44, 59, 60, 62, 92, 0, 32]⟩ : ByteArray).extract 4 9) (((⟨#[a, b, c, d]⟩ : ByteArray)[3]'(by exact (by decide : 3 < 4))).toNat : Int)
      have hq : Lib.indexByte ((⟨#[34, 43, 44, 59, 60, 62, 92, 0, 32]⟩ : ByteArray).extract 4 9).data.toList ((((⟨#[a, b, c, d]⟩ : ByteArray)[3]'(by exact (by decide : 3 < 4))).toNat : Int)).toNat.toUInt8 = -1 := by
        refine idx_high _ (by decide +kernel) _ ?_
        show 128 ≤ ((d.toNat : Int)).toNat.toUInt8.toNat
        simpa using hl
      rw [hq] at hx
      exact hx
    have n1 : (((⟨#[34, 43, 44, 59, 60, 62, 92, 0, 32]⟩ : ByteArray)[3].toNat : Int) != (((⟨#[a, b, c, d]⟩ : ByteArray)[3]'(by exact (by decide : 3 < 4))).toNat : Int)) = true := by
      show ((59 : Int) != (d.toNat : Int)) = true
      simp only [bne_iff_ne, ne_eq]
      omega
    clear hr h hl
    go_enter Tryz.func104, Tryz.ntmps104
    go_wp2_with fail
    go_at_call 145
    refine (hv _).mono ?_
    rintro e w1 ⟨rfl, rfl⟩
    go_wp2
    go_step3
    go_wp2
    refine wp_loop_rounds 1 ?_
    rw [rounds_succ]
    go_wp2
    go_step3
    go_wp2
    go_region_o
    go_wp2
    go_region_with_o (go_at_call 59; refine (hix _).mono ?_; rintro e w2 ⟨rfl, rfl⟩)
    all_goals go_wp2
    all_goals
      simp only [Exit.noGoto, Exit.inBlock, Exit.then]
      go_ret
      exact ⟨rfl, (Fr.refl _ _).drew.drew⟩


theorem NoAny_chunk {l c : List UInt8} {pos q : Nat} (h : Lib.NoAny l c pos) (hq : ∀ j b, pos ≤ j → j < pos + q → l[j]? = some b → c.contains b = false) : Lib.NoAny l c (pos + q) := by
  intro j b hj hb
  by_cases hlt : j < pos
  · exact h j b hlt hb
  · exact hq j b (by omega) hj hb
theorem apart_high (b : UInt8) (h : 128 ≤ b.toNat) : apartL.contains b = false := all256R (p := fun b => 128 ≤ b.toNat → apartL.contains b = false) (by decide +kernel) b h
set_option maxRecDepth 100000 in
set_option maxHeartbeats 4000000 in
theorem IndexAny_short (w : World) (s : ByteArray) (h8 : s.size ≤ 8) :
    Calls Tryz.prog 74 #[.string s, .string ⟨#[34, 43, 44, 59, 60, 62, 92, 0, 32]⟩] w fun e w' => e = .returned (.int .i64 (Lib.indexAny s.data.toList apartL)) ∧ Ext w w' := by
  have hsh : ∀ w, Calls Tryz.prog 105 #[.int .i64 (s.size : Int)] w fun e w' => e = .returned (.bool false) ∧ w' = w := by
    intro w
    have := Any.strings_shouldUseASCIISet (P := Tryz.prog) (ρ := Tryz.lays153_ren) { Tryz.lays153 with } (s.size : Int) w
    rw [show decide ((8 : Int) < (s.size : Int)) = false from decide_eq_false (by omega)] at this
    exact this
  have hlow : ∀ w (b : UInt8), b.toNat < 128 → Calls Tryz.prog 104 #[.string ⟨#[34, 43, 44, 59, 60, 62, 92, 0, 32]⟩, .int .i32 (b.toNat : Int)] w fun e w' => e = .returned (.int .i64 (Lib.indexByte apartL b)) ∧ w' = w := by
    intro w b hb
    have := Any.strings_IndexRune_ascii (P := Tryz.prog) (ρ := Tryz.lays153_ren) { Tryz.lays153 with } ⟨#[34, 43, 44, 59, 60, 62, 92, 0, 32]⟩ (b.toNat : Int) w (by omega) (by omega)
    rw [show ((b.toNat : Int)).toNat.toUInt8 = b by simp] at this
    exact this
  have hhi : ∀ w (r : Nat), 128 ≤ r → (((0 : Int) ≤ (r : Int) ∧ (r : Int) < 55296) ∨ (57343 < (r : Int) ∧ (r : Int) ≤ 1114111)) → Calls Tryz.prog 104 #[.string ⟨#[34, 43, 44, 59, 60, 62, 92, 0, 32]⟩, .int .i32 (r : Int)] w fun e w' => e = .returned (.int .i64 (-1)) ∧ Fr w.heap.size w w' := by
    intro w r h1 h2
    by_cases hr : (r : Int) = 65533
    · rw [hr]; exact IndexRune_err w _ (by decide) (by decide)
    · exact IndexRune_hiA w r (by omega) hr
  go_enter Tryz.func74, Tryz.ntmps74
  go_wp2_with (go_at_call 105; refine (hsh _).mono ?_; rintro e w1 ⟨rfl, hw⟩; have hw' := hw.symm; clear hw; subst hw')
  go_loopg [9, 10] s.size (fun n u v wr => ∃ pos : Nat, pos ≤ s.size ∧ s.size - pos ≤ n ∧ wr.heap[w.heap.size]? = some (.stringIter s pos) ∧ Fr w.heap.size w wr ∧ Lib.NoAny s.data.toList apartL pos)
  case atStart => exact ⟨0, Nat.zero_le _, by omega, World.iter_heap w s 0, Fr.one _, Lib.NoAny.zero _ _⟩
  case round =>
    obtain ⟨pos, hp, hn, hit, hfr, hno⟩ := hrel
    have HN : Hid (Lib.NoAny s.data.toList apartL pos) := hno
    clear hno
    by_cases hlt : pos < s.size
    · obtain ⟨m, rfl⟩ : ∃ m, gk = m + 1 := ⟨gk - 1, by omega⟩
      have hxl : Hid (s.data.toList[pos]? = some s[pos]) := Lib.data_getElem? s pos hlt
      by_cases hb : s[pos].toNat < 128
      · have hnx := fun ty => Lib.run_next_ascii_at (P := Tryz.prog) wr w.heap.size s pos ty hit hlt hb
        have hii := Lib.iterAt_heap wr w.heap.size s pos (pos + 1) hit
        have hfi := hfr.iterAt (Nat.le_refl _) (Nat.le_refl _) s (pos + 1)
        have hlw := fun w => hlow w s[pos] hb
        have hcon := Lib.contains_iff_indexByte apartL s[pos]
        clear hit hlow hhi hsh
        cases hin : apartL.contains s[pos] with
        | false =>
          rw [hin] at hcon
          have hlt0 : ¬ ((0 : Int) ≤ Lib.indexByte apartL s[pos]) := of_decide_eq_false hcon.symm
          have HS : Hid (Lib.NoAny s.data.toList apartL (pos + 1)) := HN.out.succ hxl.out hin
          clear hcon hin
          generalize Lib.indexByte apartL s[pos] = z at *
          go_wp2_with (go_at_call 104; refine (hlw _).mono ?_; rintro e w2 ⟨rfl, rfl⟩)
          go_roundg m
          case measure => omega
          case rel => exact ⟨pos + 1, by omega, by omega, hii, hfi, HS.out⟩
        | true =>
          rw [hin] at hcon
          have hge : (0 : Int) ≤ Lib.indexByte apartL s[pos] := of_decide_eq_true hcon.symm
          have HR : Hid (Lib.indexAny s.data.toList apartL = (pos : Int)) := Lib.indexAny_hit HN.out hxl.out hin
          clear hcon hin
          generalize Lib.indexByte apartL s[pos] = z at *
          go_wp2_with (go_at_call 104; refine (hlw _).mono ?_; rintro e w2 ⟨rfl, rfl⟩)
          go_ret
          exact ⟨by rw [HR.out]; rfl, hfi.toExt⟩
      · have hE := drop_one s pos hlt
        have hrh : 128 ≤ (Utf8.decode s pos).1 := by
          rw [dec_byt, hE]
          exact rune_high s[pos] ((byt s).drop (pos + 1)) (by omega)
        have hrv := decode_valid ((byt s).drop pos)
        rw [← dec_byt] at hrv
        have hch := chunk_high s[pos] ((byt s).drop (pos + 1)) (by omega)
        rw [← hE, ← dec_byt] at hch
        have hwd := dec_width ((byt s).drop pos) (by rw [hE]; simp)
        rw [← dec_byt] at hwd
        have hwl := wid_le ((byt s).drop pos)
        rw [List.length_drop, byt_length] at hwl
        have HS : Hid (Lib.NoAny s.data.toList apartL (pos + (Utf8.decode s pos).2)) := NoAny_chunk HN.out (by
          intro j b h1 h2 hj
          refine apart_high b (hch b ?_)
          refine List.mem_of_getElem? (i := j - pos) ?_
          rw [List.getElem?_take_of_lt (by omega), List.getElem?_drop, show pos + (j - pos) = j by omega]
          exact hj)
        have hnx := fun ty => Lib.run_next_any_at (P := Tryz.prog) wr w.heap.size s pos ty hit hlt
        have hII : Hid _ := Lib.iterAt_heap wr w.heap.size s pos (pos + (Utf8.decode s pos).2) hit
        have hFI : Hid (Fr w.heap.size w (wr.iterAt w.heap.size s (pos + (Utf8.decode s pos).2))) := hfr.iterAt (Nat.le_refl _) (Nat.le_refl _) s (pos + (Utf8.decode s pos).2)
        have hh := fun w => hhi w (Utf8.decode s pos).1 hrh hrv
        have hq1 : 1 ≤ (Utf8.decode s pos).2 := by rw [hwd]; omega
        have hq2 : pos + (Utf8.decode s pos).2 ≤ s.size := by rw [hwd]; omega
        clear hit hlow hhi hsh hE hrv hch hwd hwl hrh
        generalize (Utf8.decode s pos).1 = r at *
        generalize (Utf8.decode s pos).2 = q at *
        go_wp2_with (go_at_call 104; refine (hh _).mono ?_; rintro e w2 ⟨rfl, hf2⟩)
        go_roundg m
        case measure => omega
        case rel =>
          have hsz : w.heap.size < (wr.iterAt w.heap.size s (pos + q)).heap.size := by
            have := hII.out
            exact (Array.getElem?_eq_some_iff.1 this).1
          exact ⟨pos + q, by omega, by omega, (hf2.toExt.block w.heap.size hsz).trans hII.out, hFI.out.trans (hf2.mono (Nat.le_of_lt hsz)), HS.out⟩
    · have hnx := fun ty => Lib.run_next_end_at (P := Tryz.prog) wr w.heap.size s pos ty hit hlt
      have HR : Hid (Lib.indexAny s.data.toList apartL = -1) := Lib.indexAny_none (by
        rw [← Lib.size_eq, show s.size = pos by omega]; exact HN.out)
      clear hlow hhi hsh
      go_wp2
      go_ret
      exact ⟨by rw [HR.out]; rfl, hfr.toExt⟩
theorem IndexAny_apart (w : World) (s : ByteArray) (hs : s.size < 4294967281) :
    Calls Tryz.prog 74 #[.string s, .string ⟨#[34, 43, 44, 59, 60, 62, 92, 0, 32]⟩] w fun e w' => e = .returned (.int .i64 (Lib.indexAny s.data.toList apartL)) ∧ Ext w w' := by
  by_cases h8 : s.size ≤ 8
  · exact IndexAny_short w s h8
  · have h116 : (Tryz.prog.info? (Tryz.lays153_ren.t 116)).map (fun i => (i.zero, i.size)) = some (some (.agg (Array.replicate 256 (.bool false))), 256) := by kernel_rfl
    refine (Any.strings_IndexAny_long Tryz.lays153 (zero_of_info h116).1 (zero_of_info h116).2 s ⟨#[34, 43, 44, 59, 60, 62, 92, 0, 32]⟩ w (by decide) (by omega) hs (by decide) ?_).mono ?_
    · intro j b hb
      have : ∀ x ∈ apartL, x.toNat < 128 := by decide
      exact this b (List.mem_of_getElem? hb)
    · rintro e w' ⟨rfl, rfl⟩
      exact ⟨rfl, ((Ext.refl w).alloc _).alloc _⟩
set_option maxRecDepth 100000 in
theorem runSize_any (t : ByteArray) (hs : t.size < 4294967281) : RunAt t := by
  intro w
  have hi2 := IndexAny_apart w t hs
  have hv : Hid (runN (byt t) = if Lib.indexAny t.data.toList apartL < 0 then t.size else (Lib.indexAny t.data.toList apartL).toNat) := by
    show runN (byt t) = _
    unfold runN; rw [byt_length]; rfl
  have hg := Lib.indexAny_ge apartL t.data.toList
  generalize Lib.indexAny t.data.toList apartL = z at *
  by_cases hz : z < 0
  · have hz' : ¬ 0 ≤ z := by omega
    go_enter Tryz.func49, Tryz.ntmps49
    go_wp2_with (go_at_call 74; refine hi2.mono ?_; rintro _ w1 ⟨rfl, x1⟩)
    go_ret
    exact ⟨ret_i (by rw [hv.out, if_pos hz]), x1⟩
  · have hz' : 0 ≤ z := by omega
    go_enter Tryz.func49, Tryz.ntmps49
    go_wp2_with (go_at_call 74; refine hi2.mono ?_; rintro _ w1 ⟨rfl, x1⟩)
    go_ret
    exact ⟨ret_i (by rw [hv.out, if_neg (by omega)]; omega), x1⟩
end Go.Proofs.YtfiijlmpfpmgiaaGreatDoor

/-
  A name as it is written, read again, plain.
-/
namespace Go.Proofs.YtfiijlmpfpmgiaaGreatDoor
open Go.RowKit

theorem wNext_eq (st : Nat) (d : Bool) : wNext st d 61 = none := by
  unfold wNext
  by_cases h1 : st = 1
  · rw [if_pos h1]; cases d <;> decide
  · rw [if_neg h1]
    by_cases h3 : st = 3
    · rw [if_pos h3]; cases d <;> decide
    · rw [if_neg h3]
      by_cases h4 : st = 4
      · rw [if_pos h4]; decide
      · rw [if_neg h4, if_neg (by intro h; exact absurd h.2 (by decide))]; cases d <;> decide
theorem wGo_eq : ∀ (t : List UInt8) (st : Nat) (d : Bool) (r : List UInt8), wOk st d t → wGo st d (t ++ 61 :: r) = (t.length, true)
  | [], st, d, r, h => by
    rw [List.nil_append, wGo, wNext_eq]
    show (0, wEnd st d) = _
    rw [(wOk_nil st d).1 h]; rfl
  | b :: t, st, d, r, h => by
    cases hn : wNext st d b with
    | none => exact absurd h (wOk_none hn)
    | some q =>
      obtain ⟨st', d'⟩ := q
      have ih := wGo_eq t st' d' r ((wOk_some hn).1 h)
      rw [List.cons_append, wGo, hn]
      show ((wGo st' d' (t ++ 61 :: r)).1 + 1, (wGo st' d' (t ++ 61 :: r)).2) = _
      rw [ih]; rfl
theorem tw_wOk {t : ByteArray} (h : twB t = true) : wOk 0 false (byt t) := by
  unfold twB at h
  simp only [Bool.and_eq_true, decide_eq_true_eq] at h
  unfold wOk
  rw [Prod.ext_iff]
  exact ⟨by rw [h.2, byt_length], h.1⟩
theorem tw_pos {t : ByteArray} (h : twB t = true) : 0 < t.size := by
  apply Classical.byContradiction; intro q
  have : byt t = [] := List.eq_nil_of_length_eq_zero (by rw [byt_length]; omega)
  unfold twB at h
  rw [this] at h
  simp [wGo, wEnd] at h

def jA : Bool → List Av → List UInt8
  | _, [] => []
  | first, a :: r => (if first then [] else [43]) ++ pairL stp a ++ jA false r
def jP : Bool → List (List Av) → List UInt8
  | _, [] => []
  | first, l :: r => (if first then [] else [44]) ++ jA true l ++ jP false r
theorem avsGo_j : ∀ (l : List Av) (out : List UInt8) (first : Bool) (o : List UInt8), avsGo stp out first l = some o → o = out ++ jA first l
  | [], out, first, o, h => by rw [avsGo] at h; rw [jA, List.append_nil]; exact (Option.some.inj h).symm
  | a :: r, out, first, o, h => by
    rw [avsGo] at h
    by_cases c : 65536 ≤ (if first then out else out ++ [43]).length + a.t.size + a.v.size
    · rw [if_pos c] at h; cases h
    · rw [if_neg c] at h
      have := avsGo_j r _ _ _ h
      rw [this, jA]
      cases first <;> simp
theorem ptsGo_j : ∀ (l : List (List Av)) (out : List UInt8) (first : Bool) (o : List UInt8), ptsGo stp out first l = some o → o = out ++ jP first l
  | [], out, first, o, h => by rw [ptsGo] at h; rw [jP, List.append_nil]; exact (Option.some.inj h).symm
  | a :: r, out, first, o, h => by
    rw [ptsGo] at h
    split at h
    · cases h
    · rename_i q hq
      have h1 := avsGo_j _ _ _ _ hq
      have h2 := ptsGo_j r _ _ _ h
      rw [h2, h1, jP]
      cases first <;> simp
theorem jA_false (a : Av) (r : List Av) : jA false (a :: r) = 43 :: jA true (a :: r) := by simp [jA]
theorem jP_false (a : List Av) (r : List (List Av)) : jP false (a :: r) = 44 :: jP true (a :: r) := by simp [jP]
theorem jA_beh (l : List Av) {post : List UInt8} (h : Beh post) : Beh (jA false l ++ post) := by
  cases l with
  | nil => exact h
  | cons a r => rw [jA_false]; exact .inr (.inr rfl)
theorem jP_beh (l : List (List Av)) : Beh (jP false l) := by
  cases l with
  | nil => exact .inl rfl
  | cons a r => rw [jP_false]; exact .inr (.inl rfl)
theorem ext_of {s t : ByteArray} {p : Nat} {q : List UInt8} (h : (byt s).drop p = byt t ++ q) : s.extract p (p + t.size) = t := by
  have e : byt (s.extract p (p + t.size)) = byt t := by
    rw [byt_extract, h, show p + t.size - p = (byt t).length by rw [byt_length]; omega, List.take_left]
  rw [← str_byt (s.extract p (p + t.size)), e, str_byt]

/-- a pair is read -/
theorem pair_read {s : ByteArray} {r : RS} {a : Av} {post : List UInt8} (hw : twB a.t = true) (hp : Beh post) (hd : (byt s).drop r.pos = pairL stp a ++ post) :
    ∃ r1 : RS, r1.pos = r.pos + (pairL stp a).length ∧ r1.prs = r.prs ∧ r1.pts = r.pts ∧ r1.word = a.t ∧ str (mean (byt (s.extract r1.frm r1.pos))) = a.v ∧ ∀ o, Ends s 3 r1 o → Ends s 1 r o := by
  have hd0 : (byt s).drop r.pos = byt a.t ++ (61 :: (valL stp true (byt a.v) ++ post)) := by rw [hd, pairL]; simp
  have hg := wGo_eq (byt a.t) 0 false (valL stp true (byt a.v) ++ post) (tw_wOk hw)
  have hn : ttN s r.pos = r.pos + a.t.size := by unfold ttN; rw [hd0, hg, byt_length]
  have hd1 : (byt s).drop (r.pos + a.t.size) = 61 :: (valL stp true (byt a.v) ++ post) := by
    have := drop_next hd0; rwa [byt_length] at this
  have hd2 : (byt s).drop (r.pos + a.t.size + 1) = valL stp true (byt a.v) ++ post := by rw [← List.drop_drop, hd1]; rfl
  have hsz : r.pos + a.t.size < s.size := by
    rw [← byt_length s]
    apply Classical.byContradiction; intro q
    rw [List.drop_eq_nil_of_le (by omega)] at hd1; cases hd1
  have hv := VTd.val (byt a.v)
  have hpl : (pairL stp a).length = a.t.size + 1 + (valL stp true (byt a.v)).length := by rw [pairL, List.length_append, List.length_cons, byt_length]; omega
  let r2 : RS := { r with pos := r.pos + a.t.size + 1, word := a.t, frm := r.pos + a.t.size + 1 }
  have htt : ttP s r = (0, r2) := by
    unfold ttP
    rw [hn, if_neg (by omega), hd0, hg, bAt_cons hd1, if_neg (by simp), ext_of hd0]
  refine ⟨{ r2 with pos := r.pos + (pairL stp a).length }, rfl, rfl, rfl, rfl, ?_, ?_⟩
  · show str (mean (byt (s.extract (r.pos + a.t.size + 1) (r.pos + (pairL stp a).length)))) = a.v
    rw [byt_extract, hd2, show r.pos + (pairL stp a).length - (r.pos + a.t.size + 1) = (valL stp true (byt a.v)).length by omega, List.take_left, hv.means, str_byt]
  · intro o ho
    have h3 : Ends s 3 r2 o := by
      refine VTd.read hp _ _ _ (Nat.le_refl _) hv r2 o hd2 ?_
      show Ends s 3 { r2 with pos := r.pos + a.t.size + 1 + (valL stp true (byt a.v)).length } o
      rw [show r.pos + a.t.size + 1 + (valL stp true (byt a.v)).length = r.pos + (pairL stp a).length by omega]
      exact ho
    obtain ⟨f, hf⟩ := h3
    have hb : ¬ (bAt s r2.pos = 32 ∨ bAt s r2.pos = 35) := by
      have hh := val_head (byt a.v)
      show ¬ (bAt s (r.pos + a.t.size + 1) = 32 ∨ bAt s (r.pos + a.t.size + 1) = 35)
      cases hq : (byt s).drop (r.pos + a.t.size + 1) with
      | nil => rw [bAt_nil hq]; decide
      | cons b t =>
        rw [bAt_cons hq]
        rw [hq] at hd2
        have : b ≠ 32 ∧ b ≠ 35 := by
          cases hvl : valL stp true (byt a.v) with
          | nil =>
            rw [hvl, List.nil_append] at hd2
            rcases hp with hp | hp | hp
            · rw [hp] at hd2; cases hd2
            · rw [← hd2] at hp; obtain rfl : b = 44 := by simpa using hp
              decide
            · rw [← hd2] at hp; obtain rfl : b = 43 := by simpa using hp
              decide
          | cons c u =>
            rw [hvl] at hd2 hh
            obtain ⟨rfl, _⟩ := List.cons.inj hd2
            simpa using hh
        have h1 : (b.toNat : Int) ≠ 32 := toNat_ne (c := 32) this.1
        have h2 : (b.toNat : Int) ≠ 35 := toNat_ne (c := 35) this.2
        rintro (h | h)
        · exact h1 h
        · exact h2 h
    refine ⟨f + 2, ?_⟩
    rw [rGo, htt]
    simp only [if_true]
    rw [rGo, if_neg hb]
    exact hf
theorem beh_at {s : ByteArray} {p : Nat} {post : List UInt8} (hp : Beh post) (hd : (byt s).drop p = post) : behB s p = true := by
  unfold behB
  rcases hp with rfl | hp | hp
  · rw [bAt_nil hd]; rfl
  · cases post with
    | nil => cases hp
    | cons b t =>
      obtain rfl : b = 44 := by simpa using hp
      rw [bAt_cons hd]; rfl
  · cases post with
    | nil => cases hp
    | cons b t =>
      obtain rfl : b = 43 := by simpa using hp
      rw [bAt_cons hd]; rfl
theorem pos_end {s : ByteArray} {p : Nat} (h1 : p ≤ s.size) (hd : (byt s).drop p = []) : p = s.size := by
  have : s.size ≤ p := by rw [← byt_length]; exact List.drop_eq_nil_iff.1 hd
  omega
theorem pos_in {s : ByteArray} {p : Nat} {b : UInt8} {t : List UInt8} (hd : (byt s).drop p = b :: t) : p < s.size := by
  rw [← byt_length]
  apply Classical.byContradiction; intro q
  rw [List.drop_eq_nil_of_le (by omega)] at hd; cases hd
/-- a part is read -/
theorem part_read {s : ByteArray} {post : List UInt8} (hp : post = [] ∨ post.head? = some 44) : ∀ (l : List Av) (r : RS), l ≠ [] → (∀ a ∈ l, twB a.t = true) → r.prs.length + l.length ≤ 8 → r.pos ≤ s.size → (byt s).drop r.pos = jA true l ++ post →
    (post = [] → ∃ r' : RS, r'.pts = r.pts ++ [r.prs ++ l] ∧ Ends s 1 r (0, r')) ∧
    (∀ t, post = 44 :: t → r.pts.length + 1 < 64 → ∃ r' : RS, r'.pos = r.pos + (jA true l).length + 1 ∧ r'.prs = [] ∧ r'.pts = r.pts ++ [r.prs ++ l] ∧ ∀ o, Ends s 1 r' o → Ends s 1 r o)
  | [], _, h, _, _, _, _ => absurd rfl h
  | a :: l, r, _, hw, hn, hle, hd => by
    have hpb : Beh post := hp.elim .inl (fun h => .inr (.inl h))
    have hbe := jA_beh l hpb
    have hd' : (byt s).drop r.pos = pairL stp a ++ (jA false l ++ post) := by rw [hd, jA]; simp
    obtain ⟨r1, e1, e2, e3, e4, e5, go⟩ := pair_read (hw a (by simp)) hbe hd'
    have hd1 : (byt s).drop r1.pos = jA false l ++ post := by rw [e1]; exact drop_next hd'
    have hb1 := beh_at hbe hd1
    have hle1 : r1.pos ≤ s.size := by
      rw [e1]
      have := congrArg List.length hd'
      rw [List.length_drop, byt_length, List.length_append] at this
      have := tw_pos (hw a (by simp))
      have : 0 < (pairL stp a).length := by rw [pairL]; simp; omega
      omega
    have hav : (⟨r1.word, str (mean (byt (s.extract r1.frm r1.pos)))⟩ : Av) = a := by rw [e4, e5]
    cases l with
    | cons b l =>
      rw [jA_false, List.cons_append] at hd1
      have h43 : bAt s r1.pos = 43 := bAt_cons hd1
      have hep : epP s r1 = (0, { r1 with prs := r.prs ++ [a] }) := by
        unfold epP
        rw [if_pos h43, hav, e2, if_neg (by simp at hn; omega)]
      have hin := pos_in hd1
      let r2 : RS := { r1 with prs := r.prs ++ [a], pos := r1.pos + 1 }
      have step : ∀ o, Ends s 1 r2 o → Ends s 1 r o := by
        rintro o ⟨f, hf⟩
        refine go o ⟨f + 1, ?_⟩
        rw [rGo, hb1, hep]
        simp only [if_true]
        rw [if_neg (by simp; omega)]
        exact hf
      have hd2 : (byt s).drop r2.pos = jA true (b :: l) ++ post := by
        show (byt s).drop (r1.pos + 1) = _
        rw [← List.drop_drop, hd1]; rfl
      have ih := part_read hp (b :: l) r2 (by simp) (fun x hx => hw x (List.mem_cons_of_mem _ hx)) (by show (r.prs ++ [a]).length + _ ≤ 8; simp at hn ⊢; omega) (by show r1.pos + 1 ≤ s.size; omega) hd2
      have ep : r2.pts = r.pts := e3
      have eq : r2.prs ++ (b :: l) = r.prs ++ (a :: b :: l) := by show (r.prs ++ [a]) ++ (b :: l) = _; simp
      rw [ep, eq] at ih
      refine ⟨fun h => ?_, fun t h hm => ?_⟩
      · obtain ⟨r', p1, p2⟩ := ih.1 h
        exact ⟨r', p1, step _ p2⟩
      · obtain ⟨r', p0, p1, p2, p3⟩ := ih.2 t h hm
        refine ⟨r', ?_, p1, p2, fun o ho => step o (p3 o ho)⟩
        rw [p0]
        show r1.pos + 1 + _ + 1 = _
        rw [e1, show jA true (a :: b :: l) = pairL stp a ++ jA false (b :: l) by simp [jA], jA_false]
        simp; omega
    | nil =>
      rw [show jA false [] = [] from rfl, List.nil_append] at hd1
      have h43 : bAt s r1.pos ≠ 43 := by
        rcases hp with rfl | hp
        · rw [bAt_nil hd1]; decide
        · cases post with
          | nil => cases hp
          | cons x t =>
            obtain rfl : x = 44 := by simpa using hp
            rw [bAt_cons hd1]; decide
      refine ⟨?_, ?_⟩
      · rintro rfl
        have hend := pos_end hle1 hd1
        refine ⟨{ r1 with prs := [], pts := r.pts ++ [r.prs ++ [a]] }, rfl, go _ ⟨1, ?_⟩⟩
        have hep : epP s r1 = (0, { r1 with prs := [], pts := r.pts ++ [r.prs ++ [a]] }) := by
          unfold epP
          rw [if_neg h43, hav, e2, e3, if_neg (by rw [bAt_nil hd1]; rintro ⟨h, _⟩; exact absurd h (by decide))]
        rw [rGo, hb1, hep]
        simp [hend]
      · rintro t rfl hm
        have hin := pos_in hd1
        have hep : epP s r1 = (0, { r1 with prs := [], pts := r.pts ++ [r.prs ++ [a]] }) := by
          unfold epP
          rw [if_neg h43, hav, e2, e3, if_neg (by rintro ⟨_, h⟩; omega)]
        refine ⟨{ r1 with prs := [], pts := r.pts ++ [r.prs ++ [a]], pos := r1.pos + 1 }, ?_, rfl, rfl, ?_⟩
        · show r1.pos + 1 = _
          rw [e1, show jA true [a] = pairL stp a by simp [jA]]
        · rintro o ⟨f, hf⟩
          refine go o ⟨f + 1, ?_⟩
          rw [rGo, hb1, hep]
          simp only [if_true]
          rw [if_neg (by simp; omega)]
          exact hf
/-- all parts are read -/
theorem parts_read {s : ByteArray} : ∀ (ps : List (List Av)) (r : RS), ps ≠ [] → (∀ l ∈ ps, l ≠ [] ∧ l.length ≤ 8 ∧ ∀ a ∈ l, twB a.t = true) → r.prs = [] → r.pts.length + ps.length ≤ 64 → r.pos ≤ s.size → (byt s).drop r.pos = jP true ps →
    ∃ r' : RS, r'.pts = r.pts ++ ps ∧ Ends s 1 r (0, r')
  | [], _, h, _, _, _, _, _ => absurd rfl h
  | l :: ps, r, _, hw, h0, hn, hle, hd => by
    have hl := hw l (by simp)
    have hd' : (byt s).drop r.pos = jA true l ++ jP false ps := by rw [hd, jP]; simp
    have hpr := part_read (post := jP false ps) (by cases ps with
      | nil => exact .inl rfl
      | cons a t => rw [jP_false]; exact .inr rfl) l r hl.1 hl.2.2 (by rw [h0]; simpa using hl.2.1) hle hd'
    rw [h0, List.nil_append] at hpr
    cases ps with
    | nil => exact hpr.1 rfl
    | cons q ps =>
      obtain ⟨r', p0, p1, p2, p3⟩ := hpr.2 _ (jP_false q ps) (by simp at hn; omega)
      have hd1 : (byt s).drop (r.pos + (jA true l).length) = 44 :: jP true (q :: ps) := by rw [← jP_false]; exact drop_next hd'
      have hin := pos_in hd1
      obtain ⟨r2, q1, q2⟩ := parts_read (s := s) (q :: ps) r' (by simp) (fun x hx => hw x (List.mem_cons_of_mem _ hx)) p1 (by rw [p2]; simp at hn ⊢; omega) (by rw [p0]; omega) (by rw [p0, ← List.drop_drop, hd1]; rfl)
      refine ⟨r2, ?_, p3 _ q2⟩
      rw [q1, p2]; simp
theorem parts_of {pts : List (List Av)} (h : checkN pts = 0) : pts.length ≤ 64 ∧ ∀ l ∈ pts, l ≠ [] ∧ l.length ≤ 8 ∧ ∀ a ∈ l, twB a.t = true := by
  have hz := check_zero h
  refine ⟨hz.1, fun l hl => ?_⟩
  unfold checkN at h
  split at h
  · cases h
  · split at h
    · split at h
      · rename_i hb
        have := List.all_eq_true.1 hb l hl
        unfold partB at this
        simp only [Bool.and_eq_true, List.all_eq_true, Bool.not_eq_true'] at this
        refine ⟨?_, hz.2 l hl, this.1⟩
        rintro rfl
        exact absurd this.2 (by decide)
      · cases h
    · cases h
/-- what is written is read -/
theorem print_read {pts : List (List Av)} {l : List UInt8} (h : printP stp pts = (l, 0)) : l.length ≤ 65536 ∧ ∃ r : RS, r.pts = pts ∧ Ends (str l) 0 ⟨0, ⟨#[]⟩, 0, [], []⟩ (0, r) := by
  unfold printP at h
  by_cases hc : checkN pts = 0
  · rw [if_neg (by simpa using hc)] at h
    cases ho : ptsGo stp [] true pts with
    | none => rw [ho] at h; exact absurd (show (3 : Int) = 0 from congrArg Prod.snd h) (by decide)
    | some o =>
      rw [ho] at h
      have h' : (if 65536 < o.length then (([] : List UInt8), (3 : Int)) else (o, 0)) = (l, 0) := h
      by_cases hl : 65536 < o.length
      · rw [if_pos hl] at h'; exact absurd (show (3 : Int) = 0 from congrArg Prod.snd h') (by decide)
      · rw [if_neg hl] at h'
        obtain rfl : o = l := congrArg Prod.fst h'
        refine ⟨by omega, ?_⟩
        have hj := ptsGo_j _ _ _ _ ho
        rw [List.nil_append] at hj
        have hg := parts_of hc
        cases pts with
        | nil =>
          rw [hj]
          exact ⟨⟨0, ⟨#[]⟩, 0, [], []⟩, rfl, 1, rfl⟩
        | cons q ps =>
          obtain ⟨r', e, f, hf⟩ := parts_read (s := str o) (q :: ps) ⟨0, ⟨#[]⟩, 0, [], []⟩ (by simp) hg.2 rfl (by simpa using hg.1) (Nat.zero_le _) (by rw [List.drop_zero, byt_str, hj])
          refine ⟨r', by simpa using e, f + 1, ?_⟩
          have hne : ¬ (str o).size = 0 := by
            rw [← byt_length, byt_str, hj, jP]
            have hq := hg.2 q (by simp)
            cases q with
            | nil => exact absurd rfl hq.1
            | cons a t => simp [jA, pairL]
          rw [rGo, if_neg hne]
          exact hf
  · rw [if_pos (by simpa using hc)] at h
    exact absurd (congrArg Prod.snd h) (by simpa using hc)
end Go.Proofs.YtfiijlmpfpmgiaaGreatDoor

/-
  What a reader took can be written, plain, and is no longer than three times the text.
-/
namespace Go.Proofs.YtfiijlmpfpmgiaaGreatDoor
open Go.RowKit

theorem esc_le (l : List UInt8) (h : l.head? = some 92) : (escP l).1.length ≤ (escP l).2 := by
  by_cases hn : 0 < (escP l).2
  · rw [escP_said l h hn]; exact hn
  · unfold escP at hn ⊢
    split
    · simp
    · rename_i c; rw [if_neg c] at hn
      split
      · rename_i d; rw [if_pos d] at hn
        exfalso; apply hn
        cases l with
        | nil => cases h
        | cons a t => simp
      · simp
theorem ib_head : ∀ (l : List UInt8) (k : Nat), Lib.indexByte l 92 = k → (l.drop k).head? = some 92 := by
  intro l k h
  have := (Lib.indexByte_some h).1
  rw [List.head?_drop]; exact this
theorem mnP_len : ∀ (f : Nat) (l : List UInt8), (mnP f l).length ≤ l.length := by
  intro f
  induction f with
  | zero => intro l; rw [mnP]; exact Nat.le_refl _
  | succ f ih =>
    intro l
    by_cases h : Lib.indexByte l 92 < 0
    · rw [mnP_none _ _ h]; exact Nat.le_refl _
    · obtain ⟨k, hk⟩ : ∃ k : Nat, Lib.indexByte l 92 = k := ⟨(Lib.indexByte l 92).toNat, by omega⟩
      rw [mnP_some f l k hk]
      have h1 := esc_le _ (ib_head l k hk)
      have h2 := escP_len (l.drop k)
      have h3 := ih (l.drop (k + (escP (l.drop k)).2))
      have h4 : k < l.length := by
        have := (Lib.indexByte_some hk).1
        exact (List.getElem?_eq_some_iff.1 this).1
      rw [List.length_drop] at h2 h3
      simp only [List.length_append, List.length_take]
      omega
theorem wGo_take : ∀ (l : List UInt8) (st : Nat) (d : Bool), (wGo st d l).2 = true → wOk st d (l.take (wGo st d l).1)
  | [], st, d, h => by
    rw [wGo] at h ⊢
    exact (wOk_nil st d).2 h
  | b :: t, st, d, h => by
    cases hn : wNext st d b with
    | none =>
      rw [wGo, hn] at h ⊢
      exact (wOk_nil st d).2 h
    | some q =>
      obtain ⟨st', d'⟩ := q
      rw [wGo, hn] at h ⊢
      exact (wOk_some hn).2 (wGo_take t st' d' h)
theorem tw_of {t : ByteArray} (h : wOk 0 false (byt t)) : twB t = true := by
  unfold wOk at h
  unfold twB
  rw [h, byt_length]; simp

def Good (l : List Av) : Prop := l ≠ [] ∧ l.length ≤ 8 ∧ ∀ a ∈ l, twB a.t = true
def costA (l : List Av) : Nat := (l.map (fun a => (pairL stp a).length + 1)).sum
def costP (ps : List (List Av)) : Nat := (ps.map costA).sum
theorem costA_app (a b : List Av) : costA (a ++ b) = costA a + costA b := by simp [costA]
theorem costA_one (a : Av) : costA [a] = (pairL stp a).length + 1 := by simp [costA]
theorem costP_app (a b : List (List Av)) : costP (a ++ b) = costP a + costP b := by simp [costP]
theorem costP_one (a : List Av) : costP [a] = costA a := by simp [costP]
theorem pair_cost (w : ByteArray) (l : List UInt8) : (pairL stp ⟨w, str (mean l)⟩).length ≤ w.size + 1 + 3 * l.length := by
  have h1 := valGo_len stp_ok (byt (str (mean l))).length (byt (str (mean l))) true
  have h2 := mnP_len (l.length + 1) l
  rw [pairL, List.length_append, List.length_cons, byt_length]
  show w.size + ((valL stp true (byt (str (mean l)))).length + 1) ≤ _
  unfold valL
  rw [byt_str] at h1 ⊢
  have h3 : (mean l).length ≤ l.length := h2
  omega
structure RInv (s : ByteArray) (st : Nat) (r : RS) : Prop where
  pos : r.pos ≤ s.size
  np : r.prs.length ≤ 7
  nq : r.pts.length ≤ 63
  tw : ∀ a ∈ r.prs, twB a.t = true
  gd : ∀ l ∈ r.pts, Good l
  c1 : st ≤ 1 → costP r.pts + costA r.prs ≤ 3 * r.pos
  c2 : 2 ≤ st → twB r.word = true ∧ r.frm ≤ r.pos ∧ costP r.pts + costA r.prs + r.word.size + 2 ≤ 3 * r.frm
theorem RInv.tt {s : ByteArray} {r : RS} (h : RInv s 1 r) (hz : (ttP s r).1 = 0) : RInv s 2 (ttP s r).2 := by
  obtain ⟨p1, p2, p3, p4, p5⟩ := tt_ok s r h.pos hz
  have hl := wGo_len ((byt s).drop r.pos) 0 false
  rw [List.length_drop, byt_length] at hl
  refine ⟨p2, by rw [p4]; exact h.np, by rw [p5]; exact h.nq, by rw [p4]; exact h.tw, by rw [p5]; exact h.gd, fun q => absurd q (by omega), fun _ => ?_⟩
  rw [p3, p4, p5]
  have hc := h.c1 (Nat.le_refl _)
  unfold ttP at hz p1 ⊢
  split
  · rename_i e; rw [if_pos e] at hz; simp at hz
  · rename_i e; rw [if_neg e] at hz
    split
    · rename_i e2; rw [if_pos e2] at hz; simp at hz
    · rename_i e2
      have e3 : (wGo 0 false ((byt s).drop r.pos)).2 = true := by
        cases q : (wGo 0 false ((byt s).drop r.pos)).2 with
        | true => rfl
        | false => exact absurd (.inl q) e2
      have hw := wGo_take _ _ _ e3
      have hn : ttN s r.pos = r.pos + (wGo 0 false ((byt s).drop r.pos)).1 := rfl
      refine ⟨tw_of ?_, Nat.le_refl _, ?_⟩
      · show wOk 0 false (byt (s.extract r.pos (ttN s r.pos)))
        rw [byt_extract, hn, show r.pos + (wGo 0 false ((byt s).drop r.pos)).1 - r.pos = (wGo 0 false ((byt s).drop r.pos)).1 by omega]
        exact hw
      · show costP r.pts + costA r.prs + (s.extract r.pos (ttN s r.pos)).size + 2 ≤ 3 * (ttN s r.pos + 1)
        have : (s.extract r.pos (ttN s r.pos)).size ≤ ttN s r.pos - r.pos := by
          rw [← byt_length, byt_extract, List.length_take]; omega
        omega
theorem RInv.pair {s : ByteArray} {r : RS} (h : RInv s 3 r) : twB r.word = true ∧ costP r.pts + costA r.prs + costA [⟨r.word, str (mean (byt (s.extract r.frm r.pos)))⟩] ≤ 3 * r.pos := by
  obtain ⟨h1, h2, h3⟩ := h.c2 (by omega)
  refine ⟨h1, ?_⟩
  have := pair_cost r.word (byt (s.extract r.frm r.pos))
  have hl : (byt (s.extract r.frm r.pos)).length ≤ r.pos - r.frm := by rw [byt_extract, List.length_take]; omega
  rw [costA_one]; omega
theorem runN_le : ∀ l : List UInt8, runN l ≤ l.length
  | [] => Nat.le_refl _
  | b :: l => by
    rw [runN_cons]
    split
    · exact Nat.zero_le _
    · have := runN_le l
      rw [List.length_cons]; omega
theorem tv_mv (s : ByteArray) (p : Nat) (hp : p < s.size) (hz : (tvP s p).1 = 0) : p < (tvP s p).2 ∧ (tvP s p).2 ≤ s.size := by
  have h1 := escP_len ((byt s).drop p)
  have h2 := runN_le ((byt s).drop p)
  rw [List.length_drop, byt_length] at h1 h2
  unfold tvP at hz ⊢
  by_cases a : bAt s p = 92
  · rw [if_pos a] at hz ⊢
    by_cases b : (escP ((byt s).drop p)).2 = 0
    · rw [if_pos b] at hz; simp at hz
    · rw [if_neg b]; show p < p + _ ∧ p + _ ≤ _; omega
  · rw [if_neg a] at hz ⊢
    by_cases b : bAt s p = 32
    · rw [if_pos b] at hz ⊢
      cases c : behB s (p + 1) with
      | true => rw [c] at hz; simp at hz
      | false => show p < p + 1 ∧ p + 1 ≤ s.size; omega
    · rw [if_neg b] at hz ⊢
      by_cases c : runN ((byt s).drop p) = 0
      · rw [if_pos c] at hz; simp at hz
      · rw [if_neg c]; show p < p + _ ∧ p + _ ≤ _; omega
/-- what a reader took -/
def Took (s : ByteArray) (pts : List (List Av)) : Prop := pts.length ≤ 64 ∧ (∀ l ∈ pts, Good l) ∧ costP pts ≤ 3 * s.size
theorem RInv.took {s : ByteArray} : ∀ (f st : Nat) (r r' : RS), RInv s st r → rGo s f st r = some (0, r') → Took s r'.pts
  | 0, _, _, _, _, h => by simp [rGo] at h
  | f + 1, 0, r, r', hi, h => by
    rw [rGo] at h
    split at h
    · obtain rfl : r = r' := congrArg Prod.snd (Option.some.inj h)
      have := hi.c1 (by omega)
      have := hi.pos
      exact ⟨by have := hi.nq; omega, hi.gd, by omega⟩
    · exact RInv.took f 1 r r' ⟨hi.pos, hi.np, hi.nq, hi.tw, hi.gd, fun _ => hi.c1 (by omega), fun q => absurd q (by omega)⟩ h
  | f + 1, 1, r, r', hi, h => by
    rw [rGo] at h
    split at h
    · rename_i e; exact RInv.took f 2 _ r' (hi.tt e) h
    · rename_i e; exact absurd (congrArg Prod.fst (Option.some.inj h)) e
  | f + 1, 2, r, r', hi, h => by
    rw [rGo] at h
    split at h
    · exact absurd (show (50 : Int) = 0 from congrArg Prod.fst (Option.some.inj h)) (by decide)
    · exact RInv.took f 3 r r' ⟨hi.pos, hi.np, hi.nq, hi.tw, hi.gd, fun q => absurd q (by omega), fun _ => hi.c2 (by omega)⟩ h
  | f + 1, n + 3, r, r', hi0, h => by
    have hi : RInv s 3 r := ⟨hi0.pos, hi0.np, hi0.nq, hi0.tw, hi0.gd, fun q => absurd q (by omega), fun _ => hi0.c2 (by omega)⟩
    obtain ⟨hw, hc⟩ := hi.pair
    have htw : ∀ a ∈ r.prs ++ [(⟨r.word, str (mean (byt (s.extract r.frm r.pos)))⟩ : Av)], twB a.t = true := by
      intro a ha
      rcases List.mem_append.1 ha with ha | ha
      · exact hi.tw a ha
      · rw [List.mem_singleton.1 ha]; exact hw
    have hgd : Good (r.prs ++ [(⟨r.word, str (mean (byt (s.extract r.frm r.pos)))⟩ : Av)]) := ⟨by simp, by have := hi.np; simp; omega, htw⟩
    have hgp : ∀ l ∈ r.pts ++ [r.prs ++ [(⟨r.word, str (mean (byt (s.extract r.frm r.pos)))⟩ : Av)]], Good l := by
      intro l hl
      rcases List.mem_append.1 hl with hl | hl
      · exact hi.gd l hl
      · rw [List.mem_singleton.1 hl]; exact hgd
    have hcp : costP (r.pts ++ [r.prs ++ [(⟨r.word, str (mean (byt (s.extract r.frm r.pos)))⟩ : Av)]]) ≤ 3 * r.pos := by
      rw [costP_app, costP_one, costA_app]; omega
    have hpos := hi.pos
    rw [rGo] at h
    by_cases hb : behB s r.pos = true
    · rw [if_pos hb] at h
      by_cases he : (epP s r).1 ≠ 0 ∨ r.pos = s.size
      · rw [if_pos he] at h
        have hz : (epP s r).1 = 0 := congrArg Prod.fst (Option.some.inj h)
        have hp : r.pos = s.size := he.resolve_left (fun q => q hz)
        obtain rfl : (epP s r).2 = r' := congrArg Prod.snd (Option.some.inj h)
        have hm : bAt s r.pos = -1 := by rw [bAt, dif_neg (by omega)]
        have : (epP s r).2.pts = r.pts ++ [r.prs ++ [(⟨r.word, str (mean (byt (s.extract r.frm r.pos)))⟩ : Av)]] := by
          unfold epP
          rw [if_neg (by rw [hm]; decide)]
        rw [this]
        exact ⟨by have := hi.nq; simp; omega, hgp, by omega⟩
      · rw [if_neg he] at h
        have hz : (epP s r).1 = 0 := Classical.byContradiction fun q => he (.inl q)
        have hp : r.pos ≠ s.size := fun q => he (.inr q)
        obtain ⟨q1, q2, q3⟩ := ep_ok s r hi.np hi.nq hz hb hp hpos
        refine RInv.took f 1 { (epP s r).2 with pos := r.pos + 1 } r' ⟨by show r.pos + 1 ≤ s.size; omega, q2, q3, ?_, ?_, ?_, fun q => absurd q (by omega)⟩ h
        · show ∀ a ∈ (epP s r).2.prs, _
          unfold epP
          split
          · exact htw
          · intro a ha; cases ha
        · show ∀ l ∈ (epP s r).2.pts, _
          unfold epP
          split
          · exact hi.gd
          · exact hgp
        · intro _
          show costP (epP s r).2.pts + costA (epP s r).2.prs ≤ 3 * (r.pos + 1)
          unfold epP
          split
          · show costP r.pts + costA (r.prs ++ [_]) ≤ _
            rw [costA_app]; omega
          · show costP (r.pts ++ [r.prs ++ [_]]) + costA [] ≤ _
            have : costA [] = 0 := rfl
            omega
    · rw [if_neg hb] at h
      split at h
      · rename_i e
        have hlt : r.pos < s.size := by
          apply Classical.byContradiction; intro q
          apply hb
          unfold behB
          rw [bAt, dif_neg q]; rfl
        have hmv := tv_mv s r.pos hlt e
        refine RInv.took f 3 { r with pos := (tvP s r.pos).2 } r' ⟨hmv.2, hi.np, hi.nq, hi.tw, hi.gd, fun q => absurd q (by omega), fun _ => ?_⟩ h
        obtain ⟨a, b, c⟩ := hi.c2 (by omega)
        exact ⟨a, by show r.frm ≤ (tvP s r.pos).2; omega, c⟩
      · rename_i e; exact absurd (congrArg Prod.fst (Option.some.inj h)) e
theorem ends_took {s : ByteArray} {r : RS} (h : Ends s 0 ⟨0, ⟨#[]⟩, 0, [], []⟩ (0, r)) : Took s r.pts := by
  obtain ⟨f, hf⟩ := h
  exact RInv.took f 0 _ r ⟨Nat.zero_le _, by simp, by simp, by simp, by simp, fun _ => Nat.zero_le _, fun q => absurd q (by omega)⟩ hf
theorem Took.check {s : ByteArray} {pts : List (List Av)} (h : Took s pts) : checkN pts = 0 := by
  unfold checkN
  rw [if_neg (by have := h.1; omega), if_pos (List.all_eq_true.2 fun l hl => decide_eq_true (h.2.1 l hl).2.1), if_pos (List.all_eq_true.2 fun l hl => ?_)]
  have g := h.2.1 l hl
  unfold partB
  rw [List.all_eq_true.2 g.2.2]
  cases l with
  | nil => exact absurd rfl g.1
  | cons a t => rfl
theorem jA_cost : ∀ (l : List Av), (jA false l).length = costA l
  | [] => rfl
  | a :: r => by
    rw [jA, List.length_append, jA_cost r, show costA (a :: r) = (pairL stp a).length + 1 + costA r by simp [costA]]
    simp [Nat.add_comm]
theorem jP_cost : ∀ (ps : List (List Av)), (∀ l ∈ ps, Good l) → (jP false ps).length = costP ps
  | [], _ => rfl
  | l :: r, h => by
    have g := (h l (by simp)).1
    cases l with
    | nil => exact absurd rfl g
    | cons a t =>
      have h1 := jA_cost (a :: t)
      rw [jA_false] at h1
      rw [jP, List.length_append, jP_cost r (fun x hx => h x (List.mem_cons_of_mem _ hx)), show costP ((a :: t) :: r) = costA (a :: t) + costP r by simp [costP], ← h1]
      simp
/-- what was taken: its print -/
theorem took_print {s : ByteArray} {pts : List (List Av)} (h : Took s pts) : ((printP stp pts).2 = 0 ∧ (printP stp pts).1.length ≤ 3 * s.size) ∨ (printP stp pts).2 = 3 := by
  unfold printP
  rw [if_neg (by simpa using h.check)]
  cases ho : ptsGo stp [] true pts with
  | none => exact .inr rfl
  | some o =>
    show ((if 65536 < o.length then (([] : List UInt8), (3 : Int)) else (o, 0)).2 = 0 ∧ (if 65536 < o.length then (([] : List UInt8), (3 : Int)) else (o, 0)).1.length ≤ _) ∨ (if 65536 < o.length then (([] : List UInt8), (3 : Int)) else (o, 0)).2 = 3
    by_cases hl : 65536 < o.length
    · rw [if_pos hl]; exact .inr rfl
    · rw [if_neg hl]
      refine .inl ⟨rfl, ?_⟩
      have hj := ptsGo_j _ _ _ _ ho
      rw [List.nil_append] at hj
      rw [hj]
      have hc := jP_cost pts h.2.1
      have := h.2.2
      cases pts with
      | nil => exact Nat.zero_le _
      | cons a t =>
        rw [jP_false, List.length_cons] at hc
        show (jP true (a :: t)).length ≤ _
        omega
end Go.Proofs.YtfiijlmpfpmgiaaGreatDoor

/-
  name.Parse at any text.
-/
namespace Go.Proofs.YtfiijlmpfpmgiaaGreatDoor
open Go.RowKit

theorem tt_pos (s : ByteArray) (r : RS) (hp : r.pos ≤ s.size) : (ttP s r).2.pos ≤ s.size := by
  have hl := wGo_len ((byt s).drop r.pos) 0 false
  rw [List.length_drop, byt_length] at hl
  have hn : ttN s r.pos = r.pos + (wGo 0 false ((byt s).drop r.pos)).1 := rfl
  unfold ttP
  split
  · show ttN s r.pos ≤ _; omega
  · rename_i e
    split
    · show ttN s r.pos ≤ _; omega
    · show ttN s r.pos + 1 ≤ _; omega
theorem go_pos (s : ByteArray) : ∀ (f st : Nat) (r : RS) (o : Int × RS), r.pos ≤ s.size → rGo s f st r = some o → o.2.pos ≤ s.size
  | 0, _, _, _, _, h => by simp [rGo] at h
  | f + 1, 0, r, o, hp, h => by
    rw [rGo] at h
    split at h
    · rw [← Option.some.inj h]; exact hp
    · exact go_pos s f _ _ _ hp h
  | f + 1, 1, r, o, hp, h => by
    rw [rGo] at h
    split at h
    · exact go_pos s f _ _ _ (tt_pos s r hp) h
    · rw [← Option.some.inj h]; exact tt_pos s r hp
  | f + 1, 2, r, o, hp, h => by
    rw [rGo] at h
    split at h
    · rw [← Option.some.inj h]; exact hp
    · exact go_pos s f _ _ _ hp h
  | f + 1, n + 3, r, o, hp, h => by
    rw [rGo] at h
    by_cases hb : behB s r.pos = true
    · rw [if_pos hb] at h
      by_cases he : (epP s r).1 ≠ 0 ∨ r.pos = s.size
      · rw [if_pos he] at h
        rw [← Option.some.inj h, ep_pos]; exact hp
      · rw [if_neg he] at h
        refine go_pos s f _ _ _ ?_ h
        show r.pos + 1 ≤ s.size
        have : r.pos ≠ s.size := fun q => he (.inr q)
        omega
    · rw [if_neg hb] at h
      split at h
      · rename_i e
        have hlt : r.pos < s.size := by
          apply Classical.byContradiction; intro q
          apply hb
          unfold behB
          rw [bAt, dif_neg q]; rfl
        exact go_pos s f _ _ _ (tv_mv s r.pos hlt e).2 h
      · rw [← Option.some.inj h]; exact hp
/-- an error -/
def ErrV (v : Value) : Prop := ∃ g : Nat, v = .iface 50 (.pointer (some ⟨g, 0, none⟩))
set_option maxRecDepth 100000 in
set_option maxHeartbeats 4000000 in
theorem Parse_long (w : World) (s : ByteArray) (hs : 65536 < s.size) :
    Calls Tryz.prog 5 #[.string s] w fun e w' => ∃ iv, e = .returned (.tuple #[.agg #[.slice none 0 0], iv]) ∧ ErrV iv ∧ Ext w w' := by
  have hsi : (65536 : Int) < (s.size : Int) := by omega
  go_enter Tryz.func5, Tryz.ntmps5
  go_wp2
  have hx := ((Ext.refl w).alloc (.cells #[.slice none 0 0] 24)).alloc (.cells #[.int .i64 3, .int .i64 0, .string ⟨#[]⟩] 27)
  have hB := (((Ext.refl (w.alloc (.cells #[.slice none 0 0] 24))).alloc (.cells #[.int .i64 3, .int .i64 0, .string ⟨#[]⟩] 27)).block w.heap.size (by simp)).trans (heap_alloc_new w _)
  refine bodyPost_ret (results_aggT6 rfl _ _ w.heap.size [.slice none 0 0] 1 rfl Tryz.isAgg24 Tryz.sizeOf24 rfl (one_of hB)) rfl ?_
  exact ⟨_, rfl, ⟨_, rfl⟩, hx⟩
set_option maxRecDepth 100000 in
set_option maxHeartbeats 4000000 in
theorem Parse_bad (w : World) (s : ByteArray) (hs : s.size ≤ 65536) (g off cap : Nat) (ht : Tab w g off cap) (f : Nat) (o : Int × RS) (he : o.1 ≠ 0) (hr : rGo s f 0 ⟨0, ⟨#[]⟩, 0, [], []⟩ = some o) :
    Calls Tryz.prog 5 #[.string s] w fun e w' => ∃ iv, e = .returned (.tuple #[.agg #[.slice none 0 0], iv]) ∧ ErrV iv ∧ Ext w w' := by
  have hsi : ¬ (65536 : Int) < (s.size : Int) := by omega
  have hrun : ∀ k, k < s.size → RunAt (s.extract k s.size) := fun k _ => runSize_any _ (by rw [ByteArray.size_extract]; omega)
  have hrd : ∀ w1, Ext (w.alloc (.cells #[.slice none 0 0] 24)) w1 → w1.heap[w.heap.size + 1]? = some (.cells #[.string s, .int .i64 0, .string ⟨#[]⟩, .int .i64 0, .slice none 0 0, .slice none 0 0] 52 (0, 0)) →
      Calls Tryz.prog 13 #[.pointer (some ⟨w.heap.size + 1, 0, none⟩)] w1 fun e w' => e = .returned (.int .i64 o.1) ∧ ∃ pv qv us, RdM (w.alloc (.cells #[.slice none 0 0] 24)) (w.heap.size + 1) s o.2 pv qv us w' := by
    intro w1 x1 hb
    refine (read_any (w.alloc (.cells #[.slice none 0 0] 24)) (w.heap.size + 1) s hs (.slice none 0 0) (.slice none 0 0) w1 ⟨hb, row_nil _ _ _ _, row_nil _ _ _ _, ⟨rfl, fun i u l hu => by simp at hu⟩, by simp, x1⟩ g off cap (ht.ext ((Ext.refl w).alloc _)) hrun).mono ?_
    rintro e w' ⟨o', ⟨f', hf'⟩, rfl, pv, qv, us, hM⟩
    obtain rfl := rGo_one s hf' hr
    exact ⟨rfl, pv, qv, us, hM⟩
  have hrd1 := hrd ((w.alloc (.cells #[.slice none 0 0] 24)).alloc (.cells #[.string s, .int .i64 0, .string ⟨#[]⟩, .int .i64 0, .slice none 0 0, .slice none 0 0] 52)) ((Ext.refl _).alloc _) (by rw [show w.heap.size + 1 = (w.alloc (.cells #[.slice none 0 0] 24)).heap.size by simp]; exact heap_alloc_new _ _)
  have hpos := go_pos s f 0 _ o (Nat.zero_le _) hr
  clear hrd
  clear hr hrun
  obtain ⟨c, r⟩ := o
  obtain ⟨p, wd, fm, prs, pts⟩ := r
  simp only at he hpos hrd1
  have hb : (c == 0) = false := by simpa using he
  go_enter Tryz.func5, Tryz.ntmps5
  go_wp2_with fail
  go_at_call 13
  refine hrd1.mono ?_
  rintro _ w2 ⟨rfl, pv, qv, us, hM⟩
  obtain ⟨c0, c1, c2, c3, c4, c5, fz⟩ := hM.rd.cells
  simp only at c1
  have hB := (hM.ext.block w.heap.size (by simp)).trans (heap_alloc_new w _)
  have d0 := cell_of_row _ _ 0 _ _ _ hB
  simp only [List.getElem?_toArray, List.getElem?_cons_zero] at d0
  have fd : ∀ j, w2.frozen? ⟨w.heap.size, j, none⟩ = false := fun j => by simp [World.frozen?, hB]
  have hMh : Hid (Ext w w2) := ((Ext.refl w).alloc _).trans hM.ext
  have hBh : Hid (w2.heap[w.heap.size]? = some (.cells #[.slice none 0 0] 24 (0, 0))) := hB
  clear hM hB hrd1 c0 c2 c3 c4 c5
  have hmix : Tryz.prog.follows Departure.mixedOrders = true := by kernel_rfl
  have hp1 : (0 : Int) ≤ (p : Int) := by omega
  obtain ⟨q, hq, hq1, hq2⟩ : ∃ q : Nat, min ((p : Int) + 1) (s.size : Int) = (q : Int) ∧ (p : Int) ≤ (q : Int) ∧ (q : Int) ≤ (s.size : Int) := ⟨min (p + 1) s.size, by omega, by omega, by omega⟩
  have hq0 : (0 : Int) ≤ (q : Int) := by omega
  have hwr : IntKind.i64.wrap ((p : Int) + 1) = (p : Int) + 1 := by
    simp [IntKind.wrap, IntKind.signed, IntKind.bits]; omega
  go_wp2_with fail
  have fd0 := fd 0
  have hfz : ∀ o, (w2.alloc o).frozen? ⟨w.heap.size, 0, none⟩ = false := fun o => by
    have h1 := (((Ext.refl w2).alloc o).block w.heap.size (Array.getElem?_eq_some_iff.1 hBh.out).1).trans hBh.out
    simp [World.frozen?, h1]
  have hst : ∀ o, ((w2.alloc o).setCell ⟨w.heap.size, 0, none⟩ (.slice none 0 0)).cell? ⟨w.heap.size, 0, none⟩ = some (.slice none 0 0) := fun o => by
    have h1 := (((Ext.refl w2).alloc o).block w.heap.size (Array.getElem?_eq_some_iff.1 hBh.out).1).trans hBh.out
    exact cell_of_row _ _ 0 _ _ _ (heap_setCell_at (w2.alloc o) w.heap.size 0 (.slice none 0 0) _ _ _ h1)
  have hB2 := heap_setCell_at w2 w.heap.size 0 (.slice none 0 0) _ _ _ hBh.out
  have hB2h : Hid _ := hB2
  have hst2 : (w2.setCell ⟨w.heap.size, 0, none⟩ (.slice none 0 0)).cell? ⟨w.heap.size, 0, none⟩ = some (.slice none 0 0) := cell_of_row _ _ 0 _ _ _ hB2
  have hfz3 : (w2.setCell ⟨w.heap.size, 0, none⟩ (.slice none 0 0)).frozen? ⟨w.heap.size, 0, none⟩ = false := by simp [World.frozen?, hB2]
  have hfz4 : ∀ o, ((w2.setCell ⟨w.heap.size, 0, none⟩ (.slice none 0 0)).alloc o).frozen? ⟨w.heap.size, 0, none⟩ = false := fun o => by
    have h1 := (((Ext.refl (w2.setCell ⟨w.heap.size, 0, none⟩ (.slice none 0 0))).alloc o).block w.heap.size (Array.getElem?_eq_some_iff.1 hB2).1).trans hB2
    simp [World.frozen?, h1]
  have hfz5 : ∀ o, ((w2.setCell ⟨w.heap.size, 0, none⟩ (.slice none 0 0)).alloc o).drew.frozen? ⟨w.heap.size, 0, none⟩ = false := fun o => hfz4 o
  have HA : Hid (∀ o, ((w2.alloc o).setCell ⟨w.heap.size, 0, none⟩ (.slice none 0 0)).drew.heap[w.heap.size]? = some (.cells #[.slice none 0 0] 24 (0, 0))) := fun o => by
    have h1 := (((Ext.refl w2).alloc o).block w.heap.size (Array.getElem?_eq_some_iff.1 hBh.out).1).trans hBh.out
    exact heap_setCell_at (w2.alloc o) w.heap.size 0 (.slice none 0 0) _ _ _ h1
  have HB : Hid (∀ o, ((w2.setCell ⟨w.heap.size, 0, none⟩ (.slice none 0 0)).alloc o).drew.heap[w.heap.size]? = some (.cells #[.slice none 0 0] 24 (0, 0))) := fun o => 
    (((Ext.refl (w2.setCell ⟨w.heap.size, 0, none⟩ (.slice none 0 0))).alloc o).block w.heap.size (Array.getElem?_eq_some_iff.1 hB2).1).trans hB2
  have XA : Hid (∀ o, Ext w ((w2.alloc o).setCell ⟨w.heap.size, 0, none⟩ (.slice none 0 0)).drew) := fun o => ((hMh.out.trans ((Ext.refl w2).alloc o)).then (setOnly (w2.alloc o) w.heap.size 0 _) (fun k hk => by omega)).drew
  have XB : Hid (∀ o, Ext w ((w2.setCell ⟨w.heap.size, 0, none⟩ (.slice none 0 0)).alloc o).drew) := fun o => ((hMh.out.then (setOnly w2 w.heap.size 0 _) (fun k hk => by omega)).trans ((Ext.refl _).alloc o)).drew
  clear hB2
  have hfz2 : ∀ o, (w2.alloc o).drew.frozen? ⟨w.heap.size, 0, none⟩ = false := fun o => hfz o
  go_region_held3 (fun W => W.cell? ⟨w.heap.size + 1, 1, none⟩ = some (.int .i64 p) ∧ W.cell? ⟨w.heap.size, 0, none⟩ = some (.slice none 0 0) ∧ W.frozen? ⟨w.heap.size, 0, none⟩ = false) (go_keep) ((fail))
  all_goals go_wp2
  all_goals first
    | (refine bodyPost_ret (results_aggT6 rfl _ _ w.heap.size [.slice none 0 0] 1 rfl Tryz.isAgg24 Tryz.sizeOf24 rfl (one_of (HA.out _))) rfl ?_; exact ⟨_, rfl, ⟨_, rfl⟩, XA.out _⟩)
    | (refine bodyPost_ret (results_aggT6 rfl _ _ w.heap.size [.slice none 0 0] 1 rfl Tryz.isAgg24 Tryz.sizeOf24 rfl (one_of (HB.out _))) rfl ?_; exact ⟨_, rfl, ⟨_, rfl⟩, XB.out _⟩)
end Go.Proofs.YtfiijlmpfpmgiaaGreatDoor

/-
  name.Parse where an error comes out: the fault's cells.
-/
namespace Go.Proofs.YtfiijlmpfpmgiaaGreatDoor
open Go.RowKit

set_option maxRecDepth 100000 in
set_option maxHeartbeats 4000000 in
theorem Parse_badF (w : World) (s : ByteArray) (hs : s.size ≤ 65536) (g off cap : Nat) (ht : Tab w g off cap) (f : Nat) (o : Int × RS) (he : o.1 ≠ 0) (hr : rGo s f 0 ⟨0, ⟨#[]⟩, 0, [], []⟩ = some o) :
    Calls Tryz.prog 5 #[.string s] w fun e w' => ∃ g : Nat, e = .returned (.tuple #[.agg #[.slice none 0 0], errV g]) ∧ w'.heap[g]? = some (.cells #[.int .i64 o.1, .int .i64 (o.2.pos : Int), .string (fwD s o.2.pos)] 27 (0, 0)) ∧ Ext w w' := by
  have hsi : ¬ (65536 : Int) < (s.size : Int) := by omega
  have hrun : ∀ k, k < s.size → RunAt (s.extract k s.size) := fun k _ => runSize_any _ (by rw [ByteArray.size_extract]; omega)
  have hrd : ∀ w1, Ext (w.alloc (.cells #[.slice none 0 0] 24)) w1 → w1.heap[w.heap.size + 1]? = some (.cells #[.string s, .int .i64 0, .string ⟨#[]⟩, .int .i64 0, .slice none 0 0, .slice none 0 0] 52 (0, 0)) →
      Calls Tryz.prog 13 #[.pointer (some ⟨w.heap.size + 1, 0, none⟩)] w1 fun e w' => e = .returned (.int .i64 o.1) ∧ ∃ pv qv us, RdM (w.alloc (.cells #[.slice none 0 0] 24)) (w.heap.size + 1) s o.2 pv qv us w' := by
    intro w1 x1 hb
    refine (read_any (w.alloc (.cells #[.slice none 0 0] 24)) (w.heap.size + 1) s hs (.slice none 0 0) (.slice none 0 0) w1 ⟨hb, row_nil _ _ _ _, row_nil _ _ _ _, ⟨rfl, fun i u l hu => by simp at hu⟩, by simp, x1⟩ g off cap (ht.ext ((Ext.refl w).alloc _)) hrun).mono ?_
    rintro e w' ⟨o', ⟨f', hf'⟩, rfl, pv, qv, us, hM⟩
    obtain rfl := rGo_one s hf' hr
    exact ⟨rfl, pv, qv, us, hM⟩
  have hrd1 := hrd ((w.alloc (.cells #[.slice none 0 0] 24)).alloc (.cells #[.string s, .int .i64 0, .string ⟨#[]⟩, .int .i64 0, .slice none 0 0, .slice none 0 0] 52)) ((Ext.refl _).alloc _) (by rw [show w.heap.size + 1 = (w.alloc (.cells #[.slice none 0 0] 24)).heap.size by simp]; exact heap_alloc_new _ _)
  have hpos := go_pos s f 0 _ o (Nat.zero_le _) hr
  clear hrd
  clear hr hrun
  obtain ⟨c, r⟩ := o
  obtain ⟨p, wd, fm, prs, pts⟩ := r
  simp only at he hpos hrd1
  have hb : (c == 0) = false := by simpa using he
  go_enter Tryz.func5, Tryz.ntmps5
  go_wp2_with fail
  go_at_call 13
  refine hrd1.mono ?_
  rintro _ w2 ⟨rfl, pv, qv, us, hM⟩
  obtain ⟨c0, c1, c2, c3, c4, c5, fz⟩ := hM.rd.cells
  simp only at c1
  have hB := (hM.ext.block w.heap.size (by simp)).trans (heap_alloc_new w _)
  have d0 := cell_of_row _ _ 0 _ _ _ hB
  simp only [List.getElem?_toArray, List.getElem?_cons_zero] at d0
  have fd : ∀ j, w2.frozen? ⟨w.heap.size, j, none⟩ = false := fun j => by simp [World.frozen?, hB]
  have hMh : Hid (Ext w w2) := ((Ext.refl w).alloc _).trans hM.ext
  have hBh : Hid (w2.heap[w.heap.size]? = some (.cells #[.slice none 0 0] 24 (0, 0))) := hB
  clear hM hB hrd1 c0 c2 c3 c4 c5
  have hmix : Tryz.prog.follows Departure.mixedOrders = true := by kernel_rfl
  have hp1 : (0 : Int) ≤ (p : Int) := by omega
  obtain ⟨q, hq, hq1, hq2⟩ : ∃ q : Nat, min ((p : Int) + 1) (s.size : Int) = (q : Int) ∧ (p : Int) ≤ (q : Int) ∧ (q : Int) ≤ (s.size : Int) := ⟨min (p + 1) s.size, by omega, by omega, by omega⟩
  have hq0 : (0 : Int) ≤ (q : Int) := by omega
  have hfw : Hid (s.extract p q = fwD s p) := by
    show _ = _
    unfold fwD
    by_cases k : p < s.size
    · rw [if_pos k, show q = p + 1 by omega]
    · rw [if_neg k, show q = s.size by omega, show p = s.size by omega]
      rw [← str_byt (s.extract s.size s.size), byt_extract, Nat.sub_self, List.take_zero]; rfl
  have hwr : IntKind.i64.wrap ((p : Int) + 1) = (p : Int) + 1 := by
    simp [IntKind.wrap, IntKind.signed, IntKind.bits]; omega
  go_wp2_with fail
  have fd0 := fd 0
  have hfz : ∀ o, (w2.alloc o).frozen? ⟨w.heap.size, 0, none⟩ = false := fun o => by
    have h1 := (((Ext.refl w2).alloc o).block w.heap.size (Array.getElem?_eq_some_iff.1 hBh.out).1).trans hBh.out
    simp [World.frozen?, h1]
  have hst : ∀ o, ((w2.alloc o).setCell ⟨w.heap.size, 0, none⟩ (.slice none 0 0)).cell? ⟨w.heap.size, 0, none⟩ = some (.slice none 0 0) := fun o => by
    have h1 := (((Ext.refl w2).alloc o).block w.heap.size (Array.getElem?_eq_some_iff.1 hBh.out).1).trans hBh.out
    exact cell_of_row _ _ 0 _ _ _ (heap_setCell_at (w2.alloc o) w.heap.size 0 (.slice none 0 0) _ _ _ h1)
  have hB2 := heap_setCell_at w2 w.heap.size 0 (.slice none 0 0) _ _ _ hBh.out
  have hB2h : Hid _ := hB2
  have hst2 : (w2.setCell ⟨w.heap.size, 0, none⟩ (.slice none 0 0)).cell? ⟨w.heap.size, 0, none⟩ = some (.slice none 0 0) := cell_of_row _ _ 0 _ _ _ hB2
  have hfz3 : (w2.setCell ⟨w.heap.size, 0, none⟩ (.slice none 0 0)).frozen? ⟨w.heap.size, 0, none⟩ = false := by simp [World.frozen?, hB2]
  have hfz4 : ∀ o, ((w2.setCell ⟨w.heap.size, 0, none⟩ (.slice none 0 0)).alloc o).frozen? ⟨w.heap.size, 0, none⟩ = false := fun o => by
    have h1 := (((Ext.refl (w2.setCell ⟨w.heap.size, 0, none⟩ (.slice none 0 0))).alloc o).block w.heap.size (Array.getElem?_eq_some_iff.1 hB2).1).trans hB2
    simp [World.frozen?, h1]
  have hfz5 : ∀ o, ((w2.setCell ⟨w.heap.size, 0, none⟩ (.slice none 0 0)).alloc o).drew.frozen? ⟨w.heap.size, 0, none⟩ = false := fun o => hfz4 o
  have HA : Hid (∀ o, ((w2.alloc o).setCell ⟨w.heap.size, 0, none⟩ (.slice none 0 0)).drew.heap[w.heap.size]? = some (.cells #[.slice none 0 0] 24 (0, 0))) := fun o => by
    have h1 := (((Ext.refl w2).alloc o).block w.heap.size (Array.getElem?_eq_some_iff.1 hBh.out).1).trans hBh.out
    exact heap_setCell_at (w2.alloc o) w.heap.size 0 (.slice none 0 0) _ _ _ h1
  have HB : Hid (∀ o, ((w2.setCell ⟨w.heap.size, 0, none⟩ (.slice none 0 0)).alloc o).drew.heap[w.heap.size]? = some (.cells #[.slice none 0 0] 24 (0, 0))) := fun o => 
    (((Ext.refl (w2.setCell ⟨w.heap.size, 0, none⟩ (.slice none 0 0))).alloc o).block w.heap.size (Array.getElem?_eq_some_iff.1 hB2).1).trans hB2
  have hlw : w.heap.size < w2.heap.size := (Array.getElem?_eq_some_iff.1 hBh.out).1
  have FA : Hid (∀ o, ((w2.alloc o).setCell ⟨w.heap.size, 0, none⟩ (.slice none 0 0)).drew.heap[w2.heap.size]? = some o) := fun o => ((setOnly (w2.alloc o) w.heap.size 0 (.slice none 0 0)).block w2.heap.size (by simp) (by show ¬ w2.heap.size = w.heap.size; omega)).trans (heap_alloc_new w2 o)
  have FB : Hid (∀ o, ((w2.setCell ⟨w.heap.size, 0, none⟩ (.slice none 0 0)).alloc o).drew.heap[w2.heap.size]? = some o) := fun o => by
    have h1 := heap_alloc_new (w2.setCell ⟨w.heap.size, 0, none⟩ (.slice none 0 0)) o
    have h2 : (w2.setCell ⟨w.heap.size, 0, none⟩ (.slice none 0 0)).heap.size = w2.heap.size := by simp
    rw [h2] at h1
    exact h1
  have XA : Hid (∀ o, Ext w ((w2.alloc o).setCell ⟨w.heap.size, 0, none⟩ (.slice none 0 0)).drew) := fun o => ((hMh.out.trans ((Ext.refl w2).alloc o)).then (setOnly (w2.alloc o) w.heap.size 0 _) (fun k hk => by omega)).drew
  have XB : Hid (∀ o, Ext w ((w2.setCell ⟨w.heap.size, 0, none⟩ (.slice none 0 0)).alloc o).drew) := fun o => ((hMh.out.then (setOnly w2 w.heap.size 0 _) (fun k hk => by omega)).trans ((Ext.refl _).alloc o)).drew
  clear hB2
  have hfz2 : ∀ o, (w2.alloc o).drew.frozen? ⟨w.heap.size, 0, none⟩ = false := fun o => hfz o
  go_region_held3 (fun W => W.cell? ⟨w.heap.size + 1, 1, none⟩ = some (.int .i64 p) ∧ W.cell? ⟨w.heap.size, 0, none⟩ = some (.slice none 0 0) ∧ W.frozen? ⟨w.heap.size, 0, none⟩ = false) (go_keep) ((fail))
  all_goals go_wp2
  all_goals first
    | (refine bodyPost_ret (results_aggT6 rfl _ _ w.heap.size [.slice none 0 0] 1 rfl Tryz.isAgg24 Tryz.sizeOf24 rfl (one_of (HA.out _))) rfl ?_; exact ⟨w2.heap.size, rfl, by rw [← hfw.out]; exact FA.out _, XA.out _⟩)
    | (refine bodyPost_ret (results_aggT6 rfl _ _ w.heap.size [.slice none 0 0] 1 rfl Tryz.isAgg24 Tryz.sizeOf24 rfl (one_of (HB.out _))) rfl ?_; exact ⟨w2.heap.size, rfl, by rw [← hfw.out]; exact FB.out _, XB.out _⟩)
end Go.Proofs.YtfiijlmpfpmgiaaGreatDoor

/-
  name.Parse at any text: it comes to an end, with a name in rows of its own or with the fault's cells.
-/
namespace Go.Proofs.YtfiijlmpfpmgiaaGreatDoor
open Go.RowKit

theorem go_total (s : ByteArray) : ∀ (n st : Nat) (r : RS), r.pos ≤ s.size → st ≤ 3 → 4 * (s.size - r.pos) + (3 - st) < n → ∃ o, rGo s n st r = some o
  | 0, _, _, _, _, h => absurd h (Nat.not_lt_zero _)
  | n + 1, 0, r, hp, _, h => by
    rw [rGo]
    split
    · exact ⟨_, rfl⟩
    · exact go_total s n 1 r hp (by omega) (by omega)
  | n + 1, 1, r, hp, _, h => by
    rw [rGo]
    split
    · rename_i e
      have := tt_ok s r hp e
      exact go_total s n 2 _ this.2.1 (by omega) (by have := this.1; have := this; omega)
    · exact ⟨_, rfl⟩
  | n + 1, 2, r, hp, _, h => by
    rw [rGo]
    split
    · exact ⟨_, rfl⟩
    · exact go_total s n 3 r hp (by omega) (by omega)
  | n + 1, k + 3, r, hp, hk, h => by
    obtain rfl : k = 0 := by omega
    rw [rGo]
    by_cases hb : behB s r.pos = true
    · rw [if_pos hb]
      by_cases he : (epP s r).1 ≠ 0 ∨ r.pos = s.size
      · rw [if_pos he]; exact ⟨_, rfl⟩
      · rw [if_neg he]
        have : r.pos ≠ s.size := fun q => he (.inr q)
        exact go_total s n 1 { (epP s r).2 with pos := r.pos + 1 } (by show r.pos + 1 ≤ _; omega) (by omega) (by show 4 * (s.size - (r.pos + 1)) + (3 - 1) < n; omega)
    · rw [if_neg hb]
      split
      · rename_i e
        have hlt : r.pos < s.size := by
          apply Classical.byContradiction; intro q
          apply hb
          unfold behB
          rw [bAt, dif_neg q]; rfl
        have := tv_mv s r.pos hlt e
        exact go_total s n 3 { r with pos := (tvP s r.pos).2 } this.2 (by omega) (by show 4 * (s.size - (tvP s r.pos).2) + (3 - 3) < n; omega)
      · exact ⟨_, rfl⟩
set_option maxRecDepth 100000 in
set_option maxHeartbeats 4000000 in
theorem Parse_longF (w : World) (s : ByteArray) (hs : 65536 < s.size) :
    Calls Tryz.prog 5 #[.string s] w fun e w' => ∃ g : Nat, e = .returned (.tuple #[.agg #[.slice none 0 0], errV g]) ∧ w'.heap[g]? = some (.cells #[.int .i64 3, .int .i64 0, .string ⟨#[]⟩] 27 (0, 0)) ∧ Ext w w' := by
  have hsi : (65536 : Int) < (s.size : Int) := by omega
  go_enter Tryz.func5, Tryz.ntmps5
  go_wp2
  have hx := ((Ext.refl w).alloc (.cells #[.slice none 0 0] 24)).alloc (.cells #[.int .i64 3, .int .i64 0, .string ⟨#[]⟩] 27)
  have hB := (((Ext.refl (w.alloc (.cells #[.slice none 0 0] 24))).alloc (.cells #[.int .i64 3, .int .i64 0, .string ⟨#[]⟩] 27)).block w.heap.size (by simp)).trans (heap_alloc_new w _)
  refine bodyPost_ret (results_aggT6 rfl _ _ w.heap.size [.slice none 0 0] 1 rfl Tryz.isAgg24 Tryz.sizeOf24 rfl (one_of hB)) rfl ?_
  exact ⟨_, rfl, by rw [show w.heap.size + 1 = (w.alloc (.cells #[.slice none 0 0] 24)).heap.size by simp]; exact heap_alloc_new _ _, hx⟩
/-- rows of their own are a name of its own -/
theorem own_of_rows {w : World} {B : Nat} {v : Value} {us : List Value} {pts : List (List Av)} (h : Row w (fun b => B ≤ b) 45 1 v us.length us) (k : PtsO w (fun b => B ≤ b) us pts) : NmOwn w B v pts us :=
  ⟨h, k.1, fun i hi hi' => (k.2 i _ _ (List.getElem?_eq_getElem hi) (List.getElem?_eq_getElem hi')).1, fun i j hi hj hne b hb => (k.2 i _ _ (List.getElem?_eq_getElem hi) (List.getElem?_eq_getElem (show i < pts.length by rw [← k.1]; exact hi))).2 j _ (List.getElem?_eq_getElem hj) (Ne.symm hne) b hb⟩
end Go.Proofs.YtfiijlmpfpmgiaaGreatDoor

/-
  The document's own Parse of names' texts: its memory.
-/
namespace Go.Proofs.YtfiijlmpfpmgiaaGreatDoor
open Go.RowKit

theorem results_two {fn : Func} {p u : Tmp} {ty ty2 : TypeId} (h : fn.results = #[.cell p ty, .cell u ty2]) (tmps : Array Value) (w : World) (g g2 : Nat) (c0 : Value) (x y z : Value) (t t2 : TypeId) (f1 f2 : Nat × Nat) (hty : ty = 24) (hty2 : ty2 = 27) (hp : tmps.getD p undef = .pointer (some ⟨g, 0, none⟩)) (hu : tmps.getD u undef = .pointer (some ⟨g2, 0, none⟩))
    (h1 : w.heap[g]? = some (.cells #[c0] t f1)) (h2 : w.heap[g2]? = some (.cells #[x, y, z] t2 f2)) : (results fn tmps).run Tryz.prog w = .ok (.tuple #[.agg #[c0], .agg #[x, y, z]]) w := by
  subst hty hty2
  have hl := run_loadCells_list (P := Tryz.prog) w ⟨g, 0, none⟩ [c0] (by
    intro j v hv
    rw [Addr.add_lit, Nat.zero_add, cell_of_row _ _ j _ _ _ h1]
    simpa using hv)
  have hl1 : (loadCells ⟨g, 0, none⟩ 1).run Tryz.prog w = .ok #[c0] w := hl
  have hk := run_loadCells_list (P := Tryz.prog) w ⟨g2, 0, none⟩ [x, y, z] (by
    intro j v hv
    rw [Addr.add_lit, Nat.zero_add, cell_of_row _ _ j _ _ _ h2]
    simpa using hv)
  have hk3 : (loadCells ⟨g2, 0, none⟩ 3).run Tryz.prog w = .ok #[x, y, z] w := hk
  have hag := Tryz.isAgg24
  have hsz : ∀ w, (sizeOf 24).run Tryz.prog w = .ok 1 w := Tryz.sizeOf24
  have hag2 := Tryz.isAgg27
  have hsz2 : ∀ w, (sizeOf 27).run Tryz.prog w = .ok 3 w := Tryz.sizeOf27
  have hp' : tmps[p]?.getD undef = .pointer (some ⟨g, 0, none⟩) := by simpa using hp
  have hu' : tmps[u]?.getD undef = .pointer (some ⟨g2, 0, none⟩) := by simpa using hu
  simp only [results, h]
  simp [Sem.run_bind, Result.andThen, hp', hu', asAddr, loadVar, hag, hsz, hl1, hag2, hsz2, hk3]
/-- where the document's Parse stands: its results, its name, its reader, its part -/
structure DpS (B : Nat) (w W : World) (s : ByteArray) (p : Nat) (prs : List Av) (pts : List (List Av)) (pv qv : Value) (us : List Value) : Prop where
  b2 : W.heap[B]? = some (.cells #[.slice none 0 0] 24 (0, 0))
  b3 : W.heap[B + 1]? = some (.cells #[.int .i64 0, .int .i64 0, .string ⟨#[]⟩] 27 (0, 0))
  b4 : W.heap[B + 2]? = some (.cells #[qv] 24 (0, 0))
  rd : RdD W (B + 3) s p 0 0 ⟨#[]⟩
  b6 : W.heap[B + 4]? = some (.cells #[pv] 45 (0, 0))
  prow : Row W (fun k => B + 4 < k) 48 2 pv prs.length (flatA prs)
  qrow : Row W (fun k => B + 4 < k) 45 1 qv us.length us
  pts : PtsO W (fun b => B + 4 < b ∧ ¬ own pv b ∧ ¬ own qv b) us pts
  ext : Ext w W
  base : w.heap.size = B
section
variable {B : Nat} {w W W' : World} {s : ByteArray} {p : Nat} {prs : List Av} {pts : List (List Av)} {pv qv : Value} {us : List Value}
theorem DpS.lt (h : DpS B w W s p prs pts pv qv us) : B + 4 < W.heap.size := (Array.getElem?_eq_some_iff.1 h.b6).1
/-- the reader turns -/
theorem DpS.moved {q : Nat} (h : DpS B w W s p prs pts pv qv us) (hr : RdD W' (B + 3) s q 0 0 ⟨#[]⟩) (k : Only (fun b => b = B + 3) W W') : DpS B w W' s q prs pts pv qv us :=
  ⟨blk5 h.b2 k (by omega), blk5 h.b3 k (by omega), blk5 h.b4 k (by omega), hr, blk5 h.b6 k (by omega), Row.kept h.prow k (fun g hg => by omega), Row.kept h.qrow k (fun g hg => by omega), h.pts.only k (fun b hb => by omega), h.ext.then k (fun g hg => by have := h.base; omega), h.base⟩
theorem pushPair {r : List Av} {v : Value} {S : Nat → Prop} (h : Row W S 48 2 v r.length (flatA r)) (x : Av) (hl : r.length ≤ 1000) :
    ∃ a n c W', (Builtin.append_ #[43, 43] 43 #[v, .slice (some ⟨W.heap.size, 0, none⟩) 1 1]).run Tryz.prog (W.alloc (.cells #[.string x.t, .string x.v] 48)) = .ok (.slice a n c) W' ∧ Hid (Row W' (Up (own v) W.heap.size) 48 2 (.slice a n c) (r.length + 1) (flatA r ++ [.string x.t, .string x.v]) ∧ Only (own v) W W') := by
  have hb := heap_alloc_new W (.cells #[.string x.t, .string x.v] 48)
  have hsrc : Src Tryz.prog 2 43 (.slice (some ⟨W.heap.size, 0, none⟩) 1 1) 1 [.string x.t, .string x.v] (W.alloc (.cells #[.string x.t, .string x.v] 48)) := by
    refine Src.ofSlice _ Tryz.underlying43 ⟨W.heap.size, 0, none⟩ 1 1 _ rfl (fun j u hu => ?_) (fun u hu => ?_)
    · rw [Addr.add_lit, Nat.zero_add, cell_of_row _ _ j _ _ _ hb]
      simpa using hu
    · simp only [List.mem_cons, List.not_mem_nil, or_false] at hu
      rcases hu with rfl | rfl <;> rfl
  obtain ⟨g, cap, w', hr, r', o'⟩ := run_append_rowS (W.alloc (.cells #[.string x.t, .string x.v] 48)) (own v) 43 48 43 43 _ 2 32 infoAva Tryz.underlying43 rfl v r.length (flatA r) (Row.alloc (Row.min h) _) _ 1 (by decide) _ hsrc (by unfold maxLen; omega) (by omega)
  refine ⟨_, _, cap, w', hr, Row.wide r' (fun k hk => ?_), ((Only.refl _ W).alloc _).then o'⟩
  rcases hk with hk | hk
  · exact .inl hk
  · exact .inr (by simp at hk; omega)
theorem pushPart {r : List Value} {v u : Value} {S : Nat → Prop} (h : Row W S 45 1 v r.length r) (hu : u.oneCell' = true) (hl : r.length ≤ 1000) :
    ∃ a n c W', (Builtin.append_ #[22, 22] 22 #[v, .slice (some ⟨W.heap.size, 0, none⟩) 1 1]).run Tryz.prog (W.alloc (.cells #[u] 45)) = .ok (.slice a n c) W' ∧ Hid (Row W' (Up (own v) W.heap.size) 45 1 (.slice a n c) (r.length + 1) (r ++ [u]) ∧ Only (own v) W W') := by
  have hb := heap_alloc_new W (.cells #[u] 45)
  have hsrc : Src Tryz.prog 1 22 (.slice (some ⟨W.heap.size, 0, none⟩) 1 1) 1 [u] (W.alloc (.cells #[u] 45)) := by
    refine Src.ofSlice _ Tryz.underlying22 ⟨W.heap.size, 0, none⟩ 1 1 _ rfl (fun j x hx => ?_) (fun x hx => ?_)
    · rw [Addr.add_lit, Nat.zero_add, cell_of_row _ _ j _ _ _ hb]
      simpa using hx
    · simp only [List.mem_cons, List.not_mem_nil, or_false] at hx
      rw [hx]; exact hu
  obtain ⟨g, cap, w', hr, r', o'⟩ := run_append_rowS (W.alloc (.cells #[u] 45)) (own v) 22 45 22 22 _ 1 24 infoRdn Tryz.underlying22 rfl v r.length r (Row.alloc (Row.min h) _) _ 1 (by decide) _ hsrc (by unfold maxLen; omega) (by omega)
  refine ⟨_, _, cap, w', hr, Row.wide r' (fun k hk => ?_), ((Only.refl _ W).alloc _).then o'⟩
  rcases hk with hk | hk
  · exact .inl hk
  · exact .inr (by simp at hk; omega)
/-- one pair more -/
theorem DpS.pushP {pv' : Value} {x : Av} (h : DpS B w W s p prs pts pv qv us) (r : Row W' (Up (own pv) W.heap.size) 48 2 pv' (prs.length + 1) (flatA prs ++ [.string x.t, .string x.v])) (o : Only (own pv) W W') :
    DpS B w (W'.setCell ⟨B + 4, 0, none⟩ pv') s p (prs ++ [x]) pts pv' qv us := by
  have hlt := h.lt
  have hS : ∀ g, own pv g → B + 4 < g := fun g hg => h.prow.2 g hg
  have hU : ∀ g, Up (own pv) W.heap.size g → B + 4 < g := fun g hg => hg.elim (hS g) (fun h' => by omega)
  have y := setOnly W' (B + 4) 0 pv'
  have hq : ∀ g, own qv g → ¬ own pv g := row_apart h.qrow h.prow (by decide)
  have hpo : ∀ g, own pv' g → Up (own pv) W.heap.size g := fun g hg => r.2 g hg
  have no : ∀ b, b ≤ B + 4 → ¬ own pv b := fun b hb hs => by have := hS b hs; omega
  refine ⟨blk5 (blk5 h.b2 o (no _ (by omega))) y (by omega), blk5 (blk5 h.b3 o (no _ (by omega))) y (by omega), blk5 (blk5 h.b4 o (no _ (by omega))) y (by omega), blk5 (blk5 h.rd o (no _ (by omega))) y (by omega), heap_setCell_at W' (B + 4) 0 pv' _ _ _ (blk5 h.b6 o (no _ (by omega))), ?_, ?_, ?_, (h.ext.then o (fun g hg => by have := hS g hg; have := h.base; omega)).then y (fun g hg => by have := h.base; omega), h.base⟩
  · have r2 := Row.kept (r.wide hU) y (fun g hg => by omega)
    rw [← flatA_snoc] at r2
    have e : (prs ++ [x]).length = prs.length + 1 := by simp
    rw [← e] at r2
    exact r2
  · exact Row.kept (Row.wide (Row.kept (Row.min h.qrow) o hq) (fun g hg => h.qrow.2 g hg)) y (fun g hg => by omega)
  · have p1 : PtsO W (fun b => B + 4 < b ∧ ¬ own pv b ∧ ¬ own pv' b ∧ ¬ own qv b) us pts := h.pts.mono (fun b hb hs => ⟨hs.1, hs.2.1, fun hv => (hpo b hv).elim hs.2.1 (fun h' => by omega), hs.2.2⟩)
    have p2 := (p1.only o (fun b hb => hb.2.1)).only y (fun b hb => by omega)
    exact p2.mono (fun b _ hs => ⟨hs.1, hs.2.2.1, hs.2.2.2⟩)
/-- one part more -/
theorem DpS.pushQ {qv' : Value} (h : DpS B w W s p prs pts pv qv us) (r : Row W' (Up (own qv) W.heap.size) 45 1 qv' (us.length + 1) (us ++ [pv])) (o : Only (own qv) W W') :
    DpS B w ((W'.setCell ⟨B + 2, 0, none⟩ qv').setCell ⟨B + 4, 0, none⟩ (.slice none 0 0)) s p [] (pts ++ [prs]) (.slice none 0 0) qv' (us ++ [pv]) := by
  have hlt := h.lt
  have hS : ∀ g, own qv g → B + 4 < g := fun g hg => h.qrow.2 g hg
  have hU : ∀ g, Up (own qv) W.heap.size g → B + 4 < g := fun g hg => hg.elim (hS g) (fun h' => by omega)
  have y1 := setOnly W' (B + 2) 0 qv'
  have y2 := setOnly (W'.setCell ⟨B + 2, 0, none⟩ qv') (B + 4) 0 (.slice none 0 0)
  have hq : ∀ g, own pv g → ¬ own qv g := row_apart h.prow h.qrow (by decide)
  have hpo : ∀ g, own qv' g → Up (own qv) W.heap.size g := fun g hg => r.2 g hg
  have no : ∀ b, b ≤ B + 4 → ¬ own qv b := fun b hb hs => by have := hS b hs; omega
  refine ⟨blk5 (blk5 (blk5 h.b2 o (no _ (by omega))) y1 (by omega)) y2 (by omega), blk5 (blk5 (blk5 h.b3 o (no _ (by omega))) y1 (by omega)) y2 (by omega), blk5 (heap_setCell_at W' (B + 2) 0 qv' _ _ _ (blk5 h.b4 o (no _ (by omega)))) y2 (by omega), blk5 (blk5 (blk5 h.rd o (no _ (by omega))) y1 (by omega)) y2 (by omega), heap_setCell_at _ (B + 4) 0 _ _ _ _ (blk5 (blk5 h.b6 o (no _ (by omega))) y1 (by omega)), row_nil _ _ _ _, ?_, ?_, ((h.ext.then o (fun g hg => by have := hS g hg; have := h.base; omega)).then y1 (fun g hg => by have := h.base; omega)).then y2 (fun g hg => by have := h.base; omega), h.base⟩
  · have r2 := Row.kept (Row.kept (r.wide hU) y1 (fun g hg => by omega)) y2 (fun g hg => by omega)
    have e : (us ++ [pv]).length = us.length + 1 := by simp
    rw [← e] at r2
    exact r2
  · have p1 : PtsO W (fun b => B + 4 < b ∧ ¬ own qv b ∧ ¬ own qv' b) (us ++ [pv]) (pts ++ [prs]) := by
      refine PtsO.snoc (h.pts.mono (fun b hb hs => ⟨hs.1, hs.2.2, fun hv => (hpo b hv).elim hs.2.2 (fun h' => by omega)⟩)) (Row.wide (Row.min h.prow) (fun b hb => ⟨h.prow.2 b hb, hq b hb, fun hv => (hpo b hv).elim (hq b hb) (fun h' => ?_)⟩)) (fun i x z hx hz b hb hp => ((h.pts.2 i x z hx hz).1.2 b hb).2.1 hp)
      have := Row.lt h.prow hb
      omega
    have p2 := ((p1.only o (fun b hb => hb.2.1)).only y1 (fun b hb => by omega)).only y2 (fun b hb => by omega)
    exact p2.mono (fun b _ hs => ⟨hs.1, own_nil b, hs.2.2⟩)
/-- the name with its last part -/
theorem DpS.final {qv' : Value} (h : DpS B w W s p prs pts pv qv us) (r : Row W' (Up (own qv) W.heap.size) 45 1 qv' (us.length + 1) (us ++ [pv])) (o : Only (own qv) W W') {F : World} (k : Only (fun b => b ≤ B + 4) W' F) : NmAt F qv' (pts ++ [prs]) := by
  have hlt := h.lt
  have hS : ∀ g, own qv g → B + 4 < g := fun g hg => h.qrow.2 g hg
  have hU : ∀ g, Up (own qv) W.heap.size g → B + 4 < g := fun g hg => hg.elim (hS g) (fun h' => by omega)
  have hq : ∀ g, own pv g → ¬ own qv g := row_apart h.prow h.qrow (by decide)
  have hpo : ∀ g, own qv' g → Up (own qv) W.heap.size g := fun g hg => r.2 g hg
  have r2 := Row.kept (r.wide hU) k (fun g hg => by omega)
  have e : (us ++ [pv]).length = us.length + 1 := by simp
  have r1 : RowE 45 id F (fun k => B + 4 < k) qv' (us ++ [pv]) := rowE_of r2 e.symm (by simp) (fun _ h => h)
  have p1 : PtsO W (fun b => B + 4 < b ∧ ¬ own qv b) (us ++ [pv]) (pts ++ [prs]) :=
    PtsO.snoc (h.pts.mono (fun b hb hs => ⟨hs.1, hs.2.2⟩)) (Row.wide (Row.min h.prow) (fun b hb => ⟨h.prow.2 b hb, hq b hb⟩)) (fun i x z hx hz b hb hp => ((h.pts.2 i x z hx hz).1.2 b hb).2.1 hp)
  exact ⟨_, r1.sl, _, ((p1.only o (fun b hb => hb.2)).only k (fun b hb => by omega)).old⟩
end
theorem dp_end {w w1 : World} {B : Nat} (h2 : w1.heap[B]? = some (.cells #[.slice none 0 0] 24 (0, 0))) (h3 : w1.heap[B + 1]? = some (.cells #[.int .i64 0, .int .i64 0, .string ⟨#[]⟩] 27 (0, 0))) (x : Ext w w1) (hb : w.heap.size = B) (qv : Value) :
    ((((w1.setCell ⟨B, 0, none⟩ qv).setCell ⟨B + 1, 0, none⟩ (.int .i64 0)).setCell ⟨B + 1, 1, none⟩ (.int .i64 0)).setCell ⟨B + 1, 2, none⟩ (.string ⟨#[]⟩)).heap[B]? = some (.cells #[qv] 24 (0, 0)) ∧
    ((((w1.setCell ⟨B, 0, none⟩ qv).setCell ⟨B + 1, 0, none⟩ (.int .i64 0)).setCell ⟨B + 1, 1, none⟩ (.int .i64 0)).setCell ⟨B + 1, 2, none⟩ (.string ⟨#[]⟩)).heap[B + 1]? = some (.cells #[.int .i64 0, .int .i64 0, .string ⟨#[]⟩] 27 (0, 0)) ∧
    Ext w ((((w1.setCell ⟨B, 0, none⟩ qv).setCell ⟨B + 1, 0, none⟩ (.int .i64 0)).setCell ⟨B + 1, 1, none⟩ (.int .i64 0)).setCell ⟨B + 1, 2, none⟩ (.string ⟨#[]⟩)) ∧
    Only (fun b => b ≤ B + 4) w1 ((((w1.setCell ⟨B, 0, none⟩ qv).setCell ⟨B + 1, 0, none⟩ (.int .i64 0)).setCell ⟨B + 1, 1, none⟩ (.int .i64 0)).setCell ⟨B + 1, 2, none⟩ (.string ⟨#[]⟩)) := by
  have y0 := setOnly w1 B 0 qv
  have k2 := heap_setCell_at w1 B 0 qv _ _ _ h2
  have k3 := blk5 h3 y0 (by omega)
  have xa := x.then y0 (fun g hg => by omega)
  have o0 : Only (fun b => b ≤ B + 4) w1 (w1.setCell ⟨B, 0, none⟩ qv) := y0.mono (fun g _ hg => by omega)
  generalize w1.setCell ⟨B, 0, none⟩ qv = wa at *
  have y1 := setOnly wa (B + 1) 0 (.int .i64 0)
  have k4 := heap_setCell_at wa (B + 1) 0 (.int .i64 0) _ _ _ k3
  have k5 := blk5 k2 y1 (by omega)
  have xb := xa.then y1 (fun g hg => by omega)
  have o1 := o0.then (y1.mono (fun g _ hg => by omega))
  generalize wa.setCell ⟨B + 1, 0, none⟩ (.int .i64 0) = wb at *
  have y2 := setOnly wb (B + 1) 1 (.int .i64 0)
  have k6 := heap_setCell_at wb (B + 1) 1 (.int .i64 0) _ _ _ k4
  have k7 := blk5 k5 y2 (by omega)
  have xc := xb.then y2 (fun g hg => by omega)
  have o2 := o1.then (y2.mono (fun g _ hg => by omega))
  generalize wb.setCell ⟨B + 1, 1, none⟩ (.int .i64 0) = wc at *
  have y3 := setOnly wc (B + 1) 2 (.string ⟨#[]⟩)
  have k8 := heap_setCell_at wc (B + 1) 2 (.string ⟨#[]⟩) _ _ _ k6
  have k9 := blk5 k7 y3 (by omega)
  have xd := xc.then y3 (fun g hg => by omega)
  exact ⟨k9, k8, xd, o2.then (y3.mono (fun g _ hg => by omega))⟩
/-- a word, whatever stands there -/
theorem word_d (w : World) (R : Nat) (s : ByteArray) (p : Nat) (fa : Int) (fw : ByteArray) (h : RdD w R s p 0 fa fw) (hs : s.size ≤ 65536) (hps : p ≤ s.size) :
    Calls Tryz.prog 10 #[.pointer (some ⟨R, 0, none⟩)] w (wordQ s R p fa fw w) := by
  cases hl : isLet (bD s p) with
  | true => exact word_let_d w R s p fa fw h hs hl
  | false => exact word_row_d w R s p fa fw h hs hps hl
end Go.Proofs.YtfiijlmpfpmgiaaGreatDoor
