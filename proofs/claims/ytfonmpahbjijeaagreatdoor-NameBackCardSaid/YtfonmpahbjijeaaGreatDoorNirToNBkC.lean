/-
  strings.IndexAny of any text, in the signs that end a run of a value; how far a run goes, at any text.
-/
import Derived.Test.YtfonmpahbjijeaaGreatDoorNrdToNtk
import Derived.Test.YtfonmpahbjijeaaGreatDoorPhoneToSrange
import Derived.Test.YtfonmpahbjijeaaGreatDoorNparseToShelf3
import Derived.Test.YtfonmpahbjijeaaGreatDoorPshwToNsm
import Derived.Deep.RegionHeld3
import Derived.Test.YtfonmpahbjijeaaGreatDoorNsameToNbey
import Derived.Test.YtfonmpahbjijeaaGreatDoorNap2ToNprint2
import Derived.Test.YtfonmpahbjijeaaGreatDoorNal
namespace Go.Proofs.YtfonmpahbjijeaaGreatDoor
open Go.RowKit

set_option maxRecDepth 100000 in
set_option maxHeartbeats 2000000 in
theorem IndexRune_hiA (w : World) (r : Int) (h : (128 ≤ r ∧ r < 55296) ∨ (57343 < r ∧ r ≤ 1114111)) (hr : r ≠ 65533) :
    Calls Tryz.prog 124 #[.string ⟨#[34, 43, 44, 59, 60, 62, 92, 0, 32]⟩, .int .i32 r] w fun e w' => e = .returned (.int .i64 (-1)) ∧ Fr w.heap.size w w' := by
  have hv := fun w => ValidRune_hi w r h
  have g0 : (0 : Int) ≤ r := by omega
  have g1 : ¬ r < 128 := by omega
  have g2 : (r == 65533) = false := by simpa using hr
  have mixed := mixedR
  rcases enc_hi r (by omega) with ⟨a, b, he, hl⟩ | ⟨a, b, c, he, hl⟩ | ⟨a, b, c, d, he, hl⟩
  · have hix : ∀ w, Calls Tryz.prog 64 #[.string ((⟨#[34, 43, 44, 59, 60, 62, 92, 0, 32]⟩ : ByteArray).extract 2 9), .int .u8 (((⟨#[a, b]⟩ : ByteArray)[1]'(by exact (by decide : 1 < 2))).toNat : Int)] w fun e w' => e = .returned (.int .i64 (-1)) ∧ w' = w := by
      intro w
      have hx := IndexByte_any w ((⟨#[34, 43, 44, 59, 60, 62, 92, 0, 32]⟩ : ByteArray).extract 2 9) (((⟨#[a, b]⟩ : ByteArray)[1]'(by exact (by decide : 1 < 2))).toNat : Int)
      have hq : Lib.indexByte ((⟨#[34, 43, 44, 59, 60, 62, 92, 0, 32]⟩ : ByteArray).extract 2 9).data.toList ((((⟨#[a, b]⟩ : ByteArray)[1]'(by exact (by decide : 1 < 2))).toNat : Int)).toNat.toUInt8 = -1 := by
        refine idx_high _ (by decide +kernel) _ ?_
        show 128 ≤ ((b.toNat : Int)).toNat.toUInt8.toNat
        simpa using hl
      rw [hq] at hx
      exact hx
    have n1 : (((⟨#[34, 43, 44, 59, 60, 62, 92, 0, 32]⟩ : ByteArray)[1].toNat : Int) != (((⟨#[a, b]⟩ : ByteArray)[1]'(by exact (by decide : 1 < 2))).toNat : Int)) = true := by
      show ((43 : Int) != (b.toNat : Int)) = true
      simp only [bne_iff_ne, ne_eq]
      omega
    clear hr h hl
    go_enter Tryz.func124, Tryz.ntmps124
    go_wp2_with fail
    go_at_call 166
    refine (hv _).mono ?_
    rintro e w1 ⟨rfl, rfl⟩
    go_wp2
    go_step3
    go_wp2
    refine wp_loop_rounds 1 ?_
    rw [rounds_succ]
    go_wp2
    go_step3
    go_wp2
    go_region_o
    go_wp2
    go_region_with_o (go_at_call 64; refine (hix _).mono ?_; rintro e w2 ⟨rfl, rfl⟩)
    all_goals go_wp2
    all_goals
      simp only [Exit.noGoto, Exit.inBlock, Exit.then]
      go_ret
      exact ⟨rfl, (Fr.refl _ _).drew.drew⟩
  · have hix : ∀ w, Calls Tryz.prog 64 #[.string ((⟨#[34, 43, 44, 59, 60, 62, 92, 0, 32]⟩ : ByteArray).extract 3 9), .int .u8 (((⟨#[a, b, c]⟩ : ByteArray)[2]'(by exact (by decide : 2 < 3))).toNat : Int)] w fun e w' => e = .returned (.int .i64 (-1)) ∧ w' = w := by
      intro w
      have hx := IndexByte_any w ((⟨#[34, 43, 44, 59, 60, 62, 92, 0, 32]⟩ : ByteArray).extract 3 9) (((⟨#[a, b, c]⟩ : ByteArray)[2]'(by exact (by decide : 2 < 3))).toNat : Int)
      have hq : Lib.indexByte ((⟨#[34, 43, 44, 59, 60, 62, 92, 0, 32]⟩ : ByteArray).extract 3 9).data.toList ((((⟨#[a, b, c]⟩ : ByteArray)[2]'(by exact (by decide : 2 < 3))).toNat : Int)).toNat.toUInt8 = -1 := by
        refine idx_high _ (by decide +kernel) _ ?_
        show 128 ≤ ((c.toNat : Int)).toNat.toUInt8.toNat
        simpa using hl
      rw [hq] at hx
      exact hx
    have n1 : (((⟨#[34, 43, 44, 59, 60, 62, 92, 0, 32]⟩ : ByteArray)[2].toNat : Int) != (((⟨#[a, b, c]⟩ : ByteArray)[2]'(by exact (by decide : 2 < 3))).toNat : Int)) = true := by
      show ((44 : Int) != (c.toNat : Int)) = true
      simp only [bne_iff_ne, ne_eq]
      omega
    clear hr h hl
    go_enter Tryz.func124, Tryz.ntmps124
    go_wp2_with fail
    go_at_call 166
    refine (hv _).mono ?_
    rintro e w1 ⟨rfl, rfl⟩
    go_wp2
    go_step3
    go_wp2
    refine wp_loop_rounds 1 ?_
    rw [rounds_succ]
    go_wp2
    go_step3
    go_wp2
    go_region_o
    go_wp2
    go_region_with_o (go_at_call 64; refine (hix _).mono ?_; rintro e w2 ⟨rfl, rfl⟩)
    all_goals go_wp2
    all_goals
      simp only [Exit.noGoto, Exit.inBlock, Exit.then]
      go_ret
      exact ⟨rfl, (Fr.refl _ _).drew.drew⟩
  · have hix : ∀ w, Calls Tryz.prog 64 #[.string ((⟨#[34, 43, 44, 59, 60, 62, 92, 0, 32]⟩ : ByteArray).extract 4 9), .int .u8 (((⟨#[a, b, c, d]⟩ : ByteArray)[3]'(by exact (by decide : 3 < 4))).toNat : Int)] w fun e w' => e = .returned (.int .i64 (-1)) ∧ w' = w := by
      intro w
      have hx := IndexByte_any w ((⟨#[34, 43, 44, 59, 60, 62, 92, 0, 32]⟩ : ByteArray).extract 4 9) (((⟨#[a, b, c, d]⟩ : ByteArray)[3]'(by exact (by decide : 3 < 4))).toNat : Int)
      have hq : Lib.indexByte ((⟨#[34, 43, 44, 59, 60, 62, 92, 0, 32]⟩ : ByteArray).extract 4 9).data.toList ((((⟨#[a, b, c, d]⟩ : ByteArray)[3]'(by exact (by decide : 3 < 4))).toNat : Int)).toNat.toUInt8 = -1 := by
        refine idx_high _ (by decide +kernel) _ ?_
        show 128 ≤ ((d.toNat : Int)).toNat.toUInt8.toNat
        simpa using hl
      rw [hq] at hx
      exact hx
    have n1 : (((⟨#[34, 43, 44, 59, 60, 62, 92, 0, 32]⟩ : ByteArray)[3].toNat : Int) != (((⟨#[a, b, c, d]⟩ : ByteArray)[3]'(by exact (by decide : 3 < 4))).toNat : Int)) = true := by
      show ((59 : Int) != (d.toNat : Int)) = true
      simp only [bne_iff_ne, ne_eq]
      omega
    clear hr h hl
    go_enter Tryz.func124, Tryz.ntmps124
    go_wp2_with fail
    go_at_call 166
    refine (hv _).mono ?_
    rintro e w1 ⟨rfl, rfl⟩
    go_wp2
    go_step3
    go_wp2
    refine wp_loop_rounds 1 ?_
    rw [rounds_succ]
    go_wp2
    go_step3
    go_wp2
    go_region_o
    go_wp2
    go_region_with_o (go_at_call 64; refine (hix _).mono ?_; rintro e w2 ⟨rfl, rfl⟩)
    all_goals go_wp2
    all_goals
      simp only [Exit.noGoto, Exit.inBlock, Exit.then]
      go_ret
      exact ⟨rfl, (Fr.refl _ _).drew.drew⟩


theorem NoAny_chunk {l c : List UInt8} {pos q : Nat} (h : Lib.NoAny l c pos) (hq : ∀ j b, pos ≤ j → j < pos + q → l[j]? = some b → c.contains b = false) : Lib.NoAny l c (pos + q) := by
  intro j b hj hb
  by_cases hlt : j < pos
  · exact h j b hlt hb
  · exact hq j b (by omega) hj hb
theorem apart_high (b : UInt8) (h : 128 ≤ b.toNat) : apartL.contains b = false := all256R (p := fun b => 128 ≤ b.toNat → apartL.contains b = false) (by decide +kernel) b h
set_option maxRecDepth 100000 in
set_option maxHeartbeats 4000000 in
theorem IndexAny_short (w : World) (s : ByteArray) (h8 : s.size ≤ 8) :
    Calls Tryz.prog 98 #[.string s, .string ⟨#[34, 43, 44, 59, 60, 62, 92, 0, 32]⟩] w fun e w' => e = .returned (.int .i64 (Lib.indexAny s.data.toList apartL)) ∧ Ext w w' := by
  have hsh : ∀ w, Calls Tryz.prog 125 #[.int .i64 (s.size : Int)] w fun e w' => e = .returned (.bool false) ∧ w' = w := by
    intro w
    have := Any.strings_shouldUseASCIISet (P := Tryz.prog) (ρ := Tryz.lays153_ren) { Tryz.lays153 with } (s.size : Int) w
    rw [show decide ((8 : Int) < (s.size : Int)) = false from decide_eq_false (by omega)] at this
    exact this
  have hlow : ∀ w (b : UInt8), b.toNat < 128 → Calls Tryz.prog 124 #[.string ⟨#[34, 43, 44, 59, 60, 62, 92, 0, 32]⟩, .int .i32 (b.toNat : Int)] w fun e w' => e = .returned (.int .i64 (Lib.indexByte apartL b)) ∧ w' = w := by
    intro w b hb
    have := Any.strings_IndexRune_ascii (P := Tryz.prog) (ρ := Tryz.lays153_ren) { Tryz.lays153 with } ⟨#[34, 43, 44, 59, 60, 62, 92, 0, 32]⟩ (b.toNat : Int) w (by omega) (by omega)
    rw [show ((b.toNat : Int)).toNat.toUInt8 = b by simp] at this
    exact this
  have hhi : ∀ w (r : Nat), 128 ≤ r → (((0 : Int) ≤ (r : Int) ∧ (r : Int) < 55296) ∨ (57343 < (r : Int) ∧ (r : Int) ≤ 1114111)) → Calls Tryz.prog 124 #[.string ⟨#[34, 43, 44, 59, 60, 62, 92, 0, 32]⟩, .int .i32 (r : Int)] w fun e w' => e = .returned (.int .i64 (-1)) ∧ Fr w.heap.size w w' := by
    intro w r h1 h2
    by_cases hr : (r : Int) = 65533
    · rw [hr]; exact IndexRune_err w _ (by decide) (by decide)
    · exact IndexRune_hiA w r (by omega) hr
  go_enter Tryz.func98, Tryz.ntmps98
  go_wp2_with (go_at_call 125; refine (hsh _).mono ?_; rintro e w1 ⟨rfl, hw⟩; have hw' := hw.symm; clear hw; subst hw')
  go_loopg [9, 10] s.size (fun n u v wr => ∃ pos : Nat, pos ≤ s.size ∧ s.size - pos ≤ n ∧ wr.heap[w.heap.size]? = some (.stringIter s pos) ∧ Fr w.heap.size w wr ∧ Lib.NoAny s.data.toList apartL pos)
  case atStart => exact ⟨0, Nat.zero_le _, by omega, World.iter_heap w s 0, Fr.one _, Lib.NoAny.zero _ _⟩
  case round =>
    obtain ⟨pos, hp, hn, hit, hfr, hno⟩ := hrel
    have HN : Hid (Lib.NoAny s.data.toList apartL pos) := hno
    clear hno
    by_cases hlt : pos < s.size
    · obtain ⟨m, rfl⟩ : ∃ m, gk = m + 1 := ⟨gk - 1, by omega⟩
      have hxl : Hid (s.data.toList[pos]? = some s[pos]) := Lib.data_getElem? s pos hlt
      by_cases hb : s[pos].toNat < 128
      · have hnx := fun ty => Lib.run_next_ascii_at (P := Tryz.prog) wr w.heap.size s pos ty hit hlt hb
        have hii := Lib.iterAt_heap wr w.heap.size s pos (pos + 1) hit
        have hfi := hfr.iterAt (Nat.le_refl _) (Nat.le_refl _) s (pos + 1)
        have hlw := fun w => hlow w s[pos] hb
        have hcon := Lib.contains_iff_indexByte apartL s[pos]
        clear hit hlow hhi hsh
        cases hin : apartL.contains s[pos] with
        | false =>
          rw [hin] at hcon
          have hlt0 : ¬ ((0 : Int) ≤ Lib.indexByte apartL s[pos]) := of_decide_eq_false hcon.symm
          have HS : Hid (Lib.NoAny s.data.toList apartL (pos + 1)) := HN.out.succ hxl.out hin
          clear hcon hin
          generalize Lib.indexByte apartL s[pos] = z at *
          go_wp2_with (go_at_call 124; refine (hlw _).mono ?_; rintro e w2 ⟨rfl, rfl⟩)
          go_roundg m
          case measure => omega
          case rel => exact ⟨pos + 1, by omega, by omega, hii, hfi, HS.out⟩
        | true =>
          rw [hin] at hcon
          have hge : (0 : Int) ≤ Lib.indexByte apartL s[pos] := of_decide_eq_true hcon.symm
          have HR : Hid (Lib.indexAny s.data.toList apartL = (pos : Int)) := Lib.indexAny_hit HN.out hxl.out hin
          clear hcon hin
          generalize Lib.indexByte apartL s[pos] = z at *
          go_wp2_with (go_at_call 124; refine (hlw _).mono ?_; rintro e w2 ⟨rfl, rfl⟩)
          go_ret
          exact ⟨by rw [HR.out]; rfl, hfi.toExt⟩
      · have hE := drop_one s pos hlt
        have hrh : 128 ≤ (Utf8.decode s pos).1 := by
          rw [dec_byt, hE]
          exact rune_high s[pos] ((byt s).drop (pos + 1)) (by omega)
        have hrv := decode_valid ((byt s).drop pos)
        rw [← dec_byt] at hrv
        have hch := chunk_high s[pos] ((byt s).drop (pos + 1)) (by omega)
        rw [← hE, ← dec_byt] at hch
        have hwd := dec_width ((byt s).drop pos) (by rw [hE]; simp)
        rw [← dec_byt] at hwd
        have hwl := wid_le ((byt s).drop pos)
        rw [List.length_drop, byt_length] at hwl
        have HS : Hid (Lib.NoAny s.data.toList apartL (pos + (Utf8.decode s pos).2)) := NoAny_chunk HN.out (by
          intro j b h1 h2 hj
          refine apart_high b (hch b ?_)
          refine List.mem_of_getElem? (i := j - pos) ?_
          rw [List.getElem?_take_of_lt (by omega), List.getElem?_drop, show pos + (j - pos) = j by omega]
          exact hj)
        have hnx := fun ty => Lib.run_next_any_at (P := Tryz.prog) wr w.heap.size s pos ty hit hlt
        have hII : Hid _ := Lib.iterAt_heap wr w.heap.size s pos (pos + (Utf8.decode s pos).2) hit
        have hFI : Hid (Fr w.heap.size w (wr.iterAt w.heap.size s (pos + (Utf8.decode s pos).2))) := hfr.iterAt (Nat.le_refl _) (Nat.le_refl _) s (pos + (Utf8.decode s pos).2)
        have hh := fun w => hhi w (Utf8.decode s pos).1 hrh hrv
        have hq1 : 1 ≤ (Utf8.decode s pos).2 := by rw [hwd]; omega
        have hq2 : pos + (Utf8.decode s pos).2 ≤ s.size := by rw [hwd]; omega
        clear hit hlow hhi hsh hE hrv hch hwd hwl hrh
        generalize (Utf8.decode s pos).1 = r at *
        generalize (Utf8.decode s pos).2 = q at *
        go_wp2_with (go_at_call 124; refine (hh _).mono ?_; rintro e w2 ⟨rfl, hf2⟩)
        go_roundg m
        case measure => omega
        case rel =>
          have hsz : w.heap.size < (wr.iterAt w.heap.size s (pos + q)).heap.size := by
            have := hII.out
            exact (Array.getElem?_eq_some_iff.1 this).1
          exact ⟨pos + q, by omega, by omega, (hf2.toExt.block w.heap.size hsz).trans hII.out, hFI.out.trans (hf2.mono (Nat.le_of_lt hsz)), HS.out⟩
    · have hnx := fun ty => Lib.run_next_end_at (P := Tryz.prog) wr w.heap.size s pos ty hit hlt
      have HR : Hid (Lib.indexAny s.data.toList apartL = -1) := Lib.indexAny_none (by
        rw [← Lib.size_eq, show s.size = pos by omega]; exact HN.out)
      clear hlow hhi hsh
      go_wp2
      go_ret
      exact ⟨by rw [HR.out]; rfl, hfr.toExt⟩
theorem IndexAny_apart (w : World) (s : ByteArray) (hs : s.size < 4294967281) :
    Calls Tryz.prog 98 #[.string s, .string ⟨#[34, 43, 44, 59, 60, 62, 92, 0, 32]⟩] w fun e w' => e = .returned (.int .i64 (Lib.indexAny s.data.toList apartL)) ∧ Ext w w' := by
  by_cases h8 : s.size ≤ 8
  · exact IndexAny_short w s h8
  · have h116 : (Tryz.prog.info? (Tryz.lays153_ren.t 116)).map (fun i => (i.zero, i.size)) = some (some (.agg (Array.replicate 256 (.bool false))), 256) := by kernel_rfl
    refine (Any.strings_IndexAny_long Tryz.lays153 (zero_of_info h116).1 (zero_of_info h116).2 s ⟨#[34, 43, 44, 59, 60, 62, 92, 0, 32]⟩ w (by decide) (by omega) hs (by decide) ?_).mono ?_
    · intro j b hb
      have : ∀ x ∈ apartL, x.toNat < 128 := by decide
      exact this b (List.mem_of_getElem? hb)
    · rintro e w' ⟨rfl, rfl⟩
      exact ⟨rfl, ((Ext.refl w).alloc _).alloc _⟩
set_option maxRecDepth 100000 in
theorem runSize_any (t : ByteArray) (hs : t.size < 4294967281) : RunAt t := by
  intro w
  have hi2 := IndexAny_apart w t hs
  have hv : Hid (runN (byt t) = if Lib.indexAny t.data.toList apartL < 0 then t.size else (Lib.indexAny t.data.toList apartL).toNat) := by
    show runN (byt t) = _
    unfold runN; rw [byt_length]; rfl
  have hg := Lib.indexAny_ge apartL t.data.toList
  generalize Lib.indexAny t.data.toList apartL = z at *
  by_cases hz : z < 0
  · have hz' : ¬ 0 ≤ z := by omega
    go_enter Tryz.func73, Tryz.ntmps73
    go_wp2_with (go_at_call 98; refine hi2.mono ?_; rintro _ w1 ⟨rfl, x1⟩)
    go_ret
    exact ⟨ret_i (by rw [hv.out, if_pos hz]), x1⟩
  · have hz' : 0 ≤ z := by omega
    go_enter Tryz.func73, Tryz.ntmps73
    go_wp2_with (go_at_call 98; refine hi2.mono ?_; rintro _ w1 ⟨rfl, x1⟩)
    go_ret
    exact ⟨ret_i (by rw [hv.out, if_neg (by omega)]; omega), x1⟩
end Go.Proofs.YtfonmpahbjijeaaGreatDoor

/-
  name.Parse at any text.
-/
namespace Go.Proofs.YtfonmpahbjijeaaGreatDoor
open Go.RowKit

theorem tt_pos (s : ByteArray) (r : RS) (hp : r.pos ≤ s.size) : (ttP s r).2.pos ≤ s.size := by
  have hl := wGo_len ((byt s).drop r.pos) 0 false
  rw [List.length_drop, byt_length] at hl
  have hn : ttN s r.pos = r.pos + (wGo 0 false ((byt s).drop r.pos)).1 := rfl
  unfold ttP
  split
  · show ttN s r.pos ≤ _; omega
  · rename_i e
    split
    · show ttN s r.pos ≤ _; omega
    · show ttN s r.pos + 1 ≤ _; omega
theorem go_pos (s : ByteArray) : ∀ (f st : Nat) (r : RS) (o : Int × RS), r.pos ≤ s.size → rGo s f st r = some o → o.2.pos ≤ s.size
  | 0, _, _, _, _, h => by simp [rGo] at h
  | f + 1, 0, r, o, hp, h => by
    rw [rGo] at h
    split at h
    · rw [← Option.some.inj h]; exact hp
    · exact go_pos s f _ _ _ hp h
  | f + 1, 1, r, o, hp, h => by
    rw [rGo] at h
    split at h
    · exact go_pos s f _ _ _ (tt_pos s r hp) h
    · rw [← Option.some.inj h]; exact tt_pos s r hp
  | f + 1, 2, r, o, hp, h => by
    rw [rGo] at h
    split at h
    · rw [← Option.some.inj h]; exact hp
    · exact go_pos s f _ _ _ hp h
  | f + 1, n + 3, r, o, hp, h => by
    rw [rGo] at h
    by_cases hb : behB s r.pos = true
    · rw [if_pos hb] at h
      by_cases he : (epP s r).1 ≠ 0 ∨ r.pos = s.size
      · rw [if_pos he] at h
        rw [← Option.some.inj h, ep_pos]; exact hp
      · rw [if_neg he] at h
        refine go_pos s f _ _ _ ?_ h
        show r.pos + 1 ≤ s.size
        have : r.pos ≠ s.size := fun q => he (.inr q)
        omega
    · rw [if_neg hb] at h
      split at h
      · rename_i e
        have hlt : r.pos < s.size := by
          apply Classical.byContradiction; intro q
          apply hb
          unfold behB
          rw [bAt, dif_neg q]; rfl
        exact go_pos s f _ _ _ (tv_mv s r.pos hlt e).2 h
      · rw [← Option.some.inj h]; exact hp
/-- an error -/
def ErrV (v : Value) : Prop := ∃ g : Nat, v = .iface 58 (.pointer (some ⟨g, 0, none⟩))
set_option maxRecDepth 100000 in
set_option maxHeartbeats 4000000 in
theorem Parse_long (w : World) (s : ByteArray) (hs : 65536 < s.size) :
    Calls Tryz.prog 8 #[.string s] w fun e w' => ∃ iv, e = .returned (.tuple #[.agg #[.slice none 0 0], iv]) ∧ ErrV iv ∧ Ext w w' := by
  have hsi : (65536 : Int) < (s.size : Int) := by omega
  go_enter Tryz.func8, Tryz.ntmps8
  go_wp2
  have hx := ((Ext.refl w).alloc (.cells #[.slice none 0 0] 24)).alloc (.cells #[.int .i64 3, .int .i64 0, .string ⟨#[]⟩] 27)
  have hB := (((Ext.refl (w.alloc (.cells #[.slice none 0 0] 24))).alloc (.cells #[.int .i64 3, .int .i64 0, .string ⟨#[]⟩] 27)).block w.heap.size (by simp)).trans (heap_alloc_new w _)
  refine bodyPost_ret (results_aggT6 rfl _ _ w.heap.size [.slice none 0 0] 1 rfl Tryz.isAgg24 Tryz.sizeOf24 rfl (one_of hB)) rfl ?_
  exact ⟨_, rfl, ⟨_, rfl⟩, hx⟩
set_option maxRecDepth 100000 in
set_option maxHeartbeats 4000000 in
theorem Parse_bad (w : World) (s : ByteArray) (hs : s.size ≤ 65536) (g off cap : Nat) (ht : Tab w g off cap) (f : Nat) (o : Int × RS) (he : o.1 ≠ 0) (hr : rGo s f 0 ⟨0, ⟨#[]⟩, 0, [], []⟩ = some o) :
    Calls Tryz.prog 8 #[.string s] w fun e w' => ∃ iv, e = .returned (.tuple #[.agg #[.slice none 0 0], iv]) ∧ ErrV iv ∧ Ext w w' := by
  have hsi : ¬ (65536 : Int) < (s.size : Int) := by omega
  have hrun : ∀ k, k < s.size → RunAt (s.extract k s.size) := fun k _ => runSize_any _ (by rw [ByteArray.size_extract]; omega)
  have hrd : ∀ w1, Ext (w.alloc (.cells #[.slice none 0 0] 24)) w1 → w1.heap[w.heap.size + 1]? = some (.cells #[.string s, .int .i64 0, .string ⟨#[]⟩, .int .i64 0, .slice none 0 0, .slice none 0 0] 60 (0, 0)) →
      Calls Tryz.prog 26 #[.pointer (some ⟨w.heap.size + 1, 0, none⟩)] w1 fun e w' => e = .returned (.int .i64 o.1) ∧ ∃ pv qv us, RdM (w.alloc (.cells #[.slice none 0 0] 24)) (w.heap.size + 1) s o.2 pv qv us w' := by
    intro w1 x1 hb
    refine (read_any (w.alloc (.cells #[.slice none 0 0] 24)) (w.heap.size + 1) s hs (.slice none 0 0) (.slice none 0 0) w1 ⟨hb, row_nil _ _ _ _, row_nil _ _ _ _, ⟨rfl, fun i u l hu => by simp at hu⟩, by simp, x1⟩ g off cap (ht.ext ((Ext.refl w).alloc _)) hrun).mono ?_
    rintro e w' ⟨o', ⟨f', hf'⟩, rfl, pv, qv, us, hM⟩
    obtain rfl := rGo_one s hf' hr
    exact ⟨rfl, pv, qv, us, hM⟩
  have hrd1 := hrd ((w.alloc (.cells #[.slice none 0 0] 24)).alloc (.cells #[.string s, .int .i64 0, .string ⟨#[]⟩, .int .i64 0, .slice none 0 0, .slice none 0 0] 60)) ((Ext.refl _).alloc _) (by rw [show w.heap.size + 1 = (w.alloc (.cells #[.slice none 0 0] 24)).heap.size by simp]; exact heap_alloc_new _ _)
  have hpos := go_pos s f 0 _ o (Nat.zero_le _) hr
  clear hrd
  clear hr hrun
  obtain ⟨c, r⟩ := o
  obtain ⟨p, wd, fm, prs, pts⟩ := r
  simp only at he hpos hrd1
  have hb : (c == 0) = false := by simpa using he
  go_enter Tryz.func8, Tryz.ntmps8
  go_wp2_with fail
  go_at_call 26
  refine hrd1.mono ?_
  rintro _ w2 ⟨rfl, pv, qv, us, hM⟩
  obtain ⟨c0, c1, c2, c3, c4, c5, fz⟩ := hM.rd.cells
  simp only at c1
  have hB := (hM.ext.block w.heap.size (by simp)).trans (heap_alloc_new w _)
  have d0 := cell_of_row _ _ 0 _ _ _ hB
  simp only [List.getElem?_toArray, List.getElem?_cons_zero] at d0
  have fd : ∀ j, w2.frozen? ⟨w.heap.size, j, none⟩ = false := fun j => by simp [World.frozen?, hB]
  have hMh : Hid (Ext w w2) := ((Ext.refl w).alloc _).trans hM.ext
  have hBh : Hid (w2.heap[w.heap.size]? = some (.cells #[.slice none 0 0] 24 (0, 0))) := hB
  clear hM hB hrd1 c0 c2 c3 c4 c5
  have hmix : Tryz.prog.follows Departure.mixedOrders = true := by kernel_rfl
  have hp1 : (0 : Int) ≤ (p : Int) := by omega
  obtain ⟨q, hq, hq1, hq2⟩ : ∃ q : Nat, min ((p : Int) + 1) (s.size : Int) = (q : Int) ∧ (p : Int) ≤ (q : Int) ∧ (q : Int) ≤ (s.size : Int) := ⟨min (p + 1) s.size, by omega, by omega, by omega⟩
  have hq0 : (0 : Int) ≤ (q : Int) := by omega
  have hwr : IntKind.i64.wrap ((p : Int) + 1) = (p : Int) + 1 := by
    simp [IntKind.wrap, IntKind.signed, IntKind.bits]; omega
  go_wp2_with fail
  have fd0 := fd 0
  have hfz : ∀ o, (w2.alloc o).frozen? ⟨w.heap.size, 0, none⟩ = false := fun o => by
    have h1 := (((Ext.refl w2).alloc o).block w.heap.size (Array.getElem?_eq_some_iff.1 hBh.out).1).trans hBh.out
    simp [World.frozen?, h1]
  have hst : ∀ o, ((w2.alloc o).setCell ⟨w.heap.size, 0, none⟩ (.slice none 0 0)).cell? ⟨w.heap.size, 0, none⟩ = some (.slice none 0 0) := fun o => by
    have h1 := (((Ext.refl w2).alloc o).block w.heap.size (Array.getElem?_eq_some_iff.1 hBh.out).1).trans hBh.out
    exact cell_of_row _ _ 0 _ _ _ (heap_setCell_at (w2.alloc o) w.heap.size 0 (.slice none 0 0) _ _ _ h1)
  have hB2 := heap_setCell_at w2 w.heap.size 0 (.slice none 0 0) _ _ _ hBh.out
  have hB2h : Hid _ := hB2
  have hst2 : (w2.setCell ⟨w.heap.size, 0, none⟩ (.slice none 0 0)).cell? ⟨w.heap.size, 0, none⟩ = some (.slice none 0 0) := cell_of_row _ _ 0 _ _ _ hB2
  have hfz3 : (w2.setCell ⟨w.heap.size, 0, none⟩ (.slice none 0 0)).frozen? ⟨w.heap.size, 0, none⟩ = false := by simp [World.frozen?, hB2]
  have hfz4 : ∀ o, ((w2.setCell ⟨w.heap.size, 0, none⟩ (.slice none 0 0)).alloc o).frozen? ⟨w.heap.size, 0, none⟩ = false := fun o => by
    have h1 := (((Ext.refl (w2.setCell ⟨w.heap.size, 0, none⟩ (.slice none 0 0))).alloc o).block w.heap.size (Array.getElem?_eq_some_iff.1 hB2).1).trans hB2
    simp [World.frozen?, h1]
  have hfz5 : ∀ o, ((w2.setCell ⟨w.heap.size, 0, none⟩ (.slice none 0 0)).alloc o).drew.frozen? ⟨w.heap.size, 0, none⟩ = false := fun o => hfz4 o
  have HA : Hid (∀ o, ((w2.alloc o).setCell ⟨w.heap.size, 0, none⟩ (.slice none 0 0)).drew.heap[w.heap.size]? = some (.cells #[.slice none 0 0] 24 (0, 0))) := fun o => by
    have h1 := (((Ext.refl w2).alloc o).block w.heap.size (Array.getElem?_eq_some_iff.1 hBh.out).1).trans hBh.out
    exact heap_setCell_at (w2.alloc o) w.heap.size 0 (.slice none 0 0) _ _ _ h1
  have HB : Hid (∀ o, ((w2.setCell ⟨w.heap.size, 0, none⟩ (.slice none 0 0)).alloc o).drew.heap[w.heap.size]? = some (.cells #[.slice none 0 0] 24 (0, 0))) := fun o => 
    (((Ext.refl (w2.setCell ⟨w.heap.size, 0, none⟩ (.slice none 0 0))).alloc o).block w.heap.size (Array.getElem?_eq_some_iff.1 hB2).1).trans hB2
  have XA : Hid (∀ o, Ext w ((w2.alloc o).setCell ⟨w.heap.size, 0, none⟩ (.slice none 0 0)).drew) := fun o => ((hMh.out.trans ((Ext.refl w2).alloc o)).then (setOnly (w2.alloc o) w.heap.size 0 _) (fun k hk => by omega)).drew
  have XB : Hid (∀ o, Ext w ((w2.setCell ⟨w.heap.size, 0, none⟩ (.slice none 0 0)).alloc o).drew) := fun o => ((hMh.out.then (setOnly w2 w.heap.size 0 _) (fun k hk => by omega)).trans ((Ext.refl _).alloc o)).drew
  clear hB2
  have hfz2 : ∀ o, (w2.alloc o).drew.frozen? ⟨w.heap.size, 0, none⟩ = false := fun o => hfz o
  go_region_held3 (fun W => W.cell? ⟨w.heap.size + 1, 1, none⟩ = some (.int .i64 p) ∧ W.cell? ⟨w.heap.size, 0, none⟩ = some (.slice none 0 0) ∧ W.frozen? ⟨w.heap.size, 0, none⟩ = false) (go_keep) ((fail))
  all_goals go_wp2
  all_goals first
    | (refine bodyPost_ret (results_aggT6 rfl _ _ w.heap.size [.slice none 0 0] 1 rfl Tryz.isAgg24 Tryz.sizeOf24 rfl (one_of (HA.out _))) rfl ?_; exact ⟨_, rfl, ⟨_, rfl⟩, XA.out _⟩)
    | (refine bodyPost_ret (results_aggT6 rfl _ _ w.heap.size [.slice none 0 0] 1 rfl Tryz.isAgg24 Tryz.sizeOf24 rfl (one_of (HB.out _))) rfl ?_; exact ⟨_, rfl, ⟨_, rfl⟩, XB.out _⟩)
end Go.Proofs.YtfonmpahbjijeaaGreatDoor

/-
  rosterlaw06.NameBack (given alive).
-/
namespace Go.Proofs.YtfonmpahbjijeaaGreatDoor
open Go.RowKit

theorem go_total (s : ByteArray) : ∀ (n st : Nat) (r : RS), r.pos ≤ s.size → st ≤ 3 → 4 * (s.size - r.pos) + (3 - st) < n → ∃ o, rGo s n st r = some o
  | 0, _, _, _, _, h => absurd h (Nat.not_lt_zero _)
  | n + 1, 0, r, hp, _, h => by
    rw [rGo]
    split
    · exact ⟨_, rfl⟩
    · exact go_total s n 1 r hp (by omega) (by omega)
  | n + 1, 1, r, hp, _, h => by
    rw [rGo]
    split
    · rename_i e
      have := tt_ok s r hp e
      exact go_total s n 2 _ this.2.1 (by omega) (by have := this.1; have := this; omega)
    · exact ⟨_, rfl⟩
  | n + 1, 2, r, hp, _, h => by
    rw [rGo]
    split
    · exact ⟨_, rfl⟩
    · exact go_total s n 3 r hp (by omega) (by omega)
  | n + 1, k + 3, r, hp, hk, h => by
    obtain rfl : k = 0 := by omega
    rw [rGo]
    by_cases hb : behB s r.pos = true
    · rw [if_pos hb]
      by_cases he : (epP s r).1 ≠ 0 ∨ r.pos = s.size
      · rw [if_pos he]; exact ⟨_, rfl⟩
      · rw [if_neg he]
        have : r.pos ≠ s.size := fun q => he (.inr q)
        exact go_total s n 1 { (epP s r).2 with pos := r.pos + 1 } (by show r.pos + 1 ≤ _; omega) (by omega) (by show 4 * (s.size - (r.pos + 1)) + (3 - 1) < n; omega)
    · rw [if_neg hb]
      split
      · rename_i e
        have hlt : r.pos < s.size := by
          apply Classical.byContradiction; intro q
          apply hb
          unfold behB
          rw [bAt, dif_neg q]; rfl
        have := tv_mv s r.pos hlt e
        exact go_total s n 3 { r with pos := (tvP s r.pos).2 } this.2 (by omega) (by show 4 * (s.size - (tvP s r.pos).2) + (3 - 3) < n; omega)
      · exact ⟨_, rfl⟩
theorem VTd.le {l m : List UInt8} (h : VTd l m) : m.length ≤ l.length := by
  induction h with
  | nil => exact Nat.le_refl _
  | plain _ _ _ ih => simp; exact ih
  | blank _ _ ih => simp; exact ih
  | sign _ _ _ ih => simp; omega
  | hex _ _ ih => simp [hex1]; omega
theorem mem_sum {α : Type} (f : α → Nat) : ∀ (l : List α) (a : α), a ∈ l → f a ≤ (l.map f).sum
  | [], _, h => by cases h
  | b :: l, a, h => by
    rw [List.map_cons, List.sum_cons]
    rcases List.mem_cons.1 h with rfl | h
    · omega
    · have := mem_sum f l a h; omega
theorem Took.fits {s : ByteArray} {pts : List (List Av)} (h : Took s pts) (hs : s.size ≤ 65536) : ∀ l ∈ pts, Fits l := by
  intro l hl a ha
  have h1 := mem_sum costA pts l hl
  have h2 := mem_sum (fun a => (pairL stp a).length + 1) l a ha
  have h3 : costP pts ≤ 3 * s.size := h.2.2
  have h4 := (VTd.val (byt a.v)).le
  have h5 : (pairL stp a).length = a.t.size + (1 + (valL stp true (byt a.v)).length) := by rw [pairL, List.length_append, List.length_cons, byt_length]; omega
  rw [byt_length] at h4
  have h6 : costA l ≤ costP pts := h1
  have h7 : (pairL stp a).length + 1 ≤ costA l := h2
  exact ⟨by omega, by omega⟩
theorem print_bad {pts : List (List Av)} (h : (printP stp pts).2 ≠ 0) : (printP stp pts).1 = [] := by
  unfold printP at h ⊢
  split
  · rfl
  · rename_i c
    rw [if_neg c] at h
    cases ho : ptsGo stp [] true pts with
    | none => rfl
    | some o =>
      rw [ho] at h
      have h' : (if 65536 < o.length then (([] : List UInt8), (3 : Int)) else (o, 0)).2 ≠ 0 := h
      show (if 65536 < o.length then (([] : List UInt8), (3 : Int)) else (o, 0)).1 = []
      by_cases hl : 65536 < o.length
      · rw [if_pos hl]
      · rw [if_neg hl] at h'; exact absurd rfl h'
/-- a text that is read -/
def Reads (s : ByteArray) (pts : List (List Av)) : Prop := s.size ≤ 65536 ∧ ∃ r : RS, r.pts = pts ∧ Ends s 0 ⟨0, ⟨#[]⟩, 0, [], []⟩ (0, r)
theorem reads_print {pts : List (List Av)} (h : (printP stp pts).2 = 0) : Reads (str (printP stp pts).1) pts := by
  obtain ⟨h1, h2⟩ := print_read (l := (printP stp pts).1) (Prod.ext rfl h)
  exact ⟨by rw [str_size]; exact h1, h2⟩
theorem reads_nil : Reads (str []) [] := ⟨by rw [str_size]; exact Nat.zero_le _, ⟨0, ⟨#[]⟩, 0, [], []⟩, rfl, 1, rfl⟩
theorem parse_reads (W : World) (ht : HasTab W) (s : ByteArray) (pts : List (List Av)) (h : Reads s pts) :
    Calls Tryz.prog 8 #[.string s] W fun e w' => ∃ qa qn qc, e = .returned (.tuple #[.agg #[.slice qa qn qc], .nilIface]) ∧ Hid (∃ us, NmIn w' (.slice qa qn qc) us pts) ∧ Hid (Ext W w') := by
  obtain ⟨hs, r, rfl, f, hf⟩ := h
  obtain ⟨g, off, cap, hT⟩ := ht
  refine (Parse_ok W s hs g off cap hT (fun k _ => runSize_any _ (by rw [ByteArray.size_extract]; omega)) f r hf).mono ?_
  rintro _ w' ⟨qv, rfl, hn, x⟩
  obtain ⟨us, hu⟩ := hn.names
  obtain ⟨a, n, c, rfl, _⟩ := hu.sl.shape
  exact ⟨a, n, c, rfl, ⟨us, hu⟩, x⟩
theorem parse_any (W : World) (ht : HasTab W) (s : ByteArray) :
    (∃ pts, Reads s pts ∧ Took s pts) ∨ Calls Tryz.prog 8 #[.string s] W fun e w' => ∃ g : Nat, e = .returned (.tuple #[.agg #[.slice none 0 0], .iface 58 (.pointer (some ⟨g, 0, none⟩))]) ∧ Hid (Ext W w') := by
  by_cases hl : 65536 < s.size
  · right
    refine (Parse_long W s hl).mono ?_
    rintro _ w' ⟨iv, rfl, ⟨g, rfl⟩, x⟩
    exact ⟨g, rfl, x⟩
  · obtain ⟨o, ho⟩ := go_total s (4 * s.size + 4) 0 ⟨0, ⟨#[]⟩, 0, [], []⟩ (Nat.zero_le _) (by omega) (by show 4 * (s.size - 0) + (3 - 0) < _; omega)
    by_cases hz : o.1 = 0
    · left
      have he : Ends s 0 ⟨0, ⟨#[]⟩, 0, [], []⟩ (0, o.2) := ⟨_, by rw [ho]; congr 1; exact Prod.ext hz rfl⟩
      exact ⟨o.2.pts, ⟨by omega, o.2, rfl, he⟩, ends_took he⟩
    · right
      obtain ⟨g, off, cap, hT⟩ := ht
      refine (Parse_bad W s (by omega) g off cap hT _ o hz ho).mono ?_
      rintro _ w' ⟨iv, rfl, ⟨g, rfl⟩, x⟩
      exact ⟨g, rfl, x⟩
end Go.Proofs.YtfonmpahbjijeaaGreatDoor

/-
  rosterlaw06.NameBack (given alive).
-/
namespace Go.Proofs.YtfonmpahbjijeaaGreatDoor
open Go.RowKit

set_option maxRecDepth 100000 in
set_option maxHeartbeats 16000000 in
theorem NameBack_core (w : World) (ht : HasTab w) (hr : HasRules w) (hT : Lib.Utf8Tabs 1 2 w) (qv : Value) (us : List Value) (pts : List (List Av)) (hq : NmIn w qv us pts) (hf : ∀ l ∈ pts, Fits l) (text : ByteArray) :
    Calls Tryz.prog 6 #[.agg #[qv], .string text] w fun e w' => e = .returned (.bool true) ∧ Ext w w' := by
  obtain ⟨a, n, c, rfl, _⟩ := hq.sl.shape
  have hB1 : ∀ W, Ext w W → Calls Tryz.prog 13 #[.agg #[.slice a n c]] W fun e w' => (e = .returned (.bool true) ∨ e = .returned (.bool false) ∧ cntN pts ≤ 134217728) ∧ Ext W w' := fun W x => beyond_any W _ us pts (hq.ext x) hf
  have hth : Hid (HasTab w ∧ HasRules w ∧ Lib.Utf8Tabs 1 2 w) := ⟨ht, hr, hT⟩
  have hfh : Hid (∀ l ∈ pts, Fits l) := hf
  have hqh : Hid (NmIn w (.slice a n c) us pts) := hq
  have hPr : Hid (∀ W qv us ps, Ext w W → NmIn W qv us ps → (∀ l ∈ ps, Fits l) → Calls Tryz.prog 15 #[.agg #[qv]] W fun e w' => e = .returned (.tuple #[.string (str (printP stp ps).1), .int .i64 (printP stp ps).2]) ∧ Hid (Ext W w')) := by
    intro W qv us ps x hn hfs
    obtain ⟨g, off, cap, hTab⟩ := hth.out.1.ext6 x
    have hU := Utf8Tabs_below hth.out.2.2 x
    refine (Print_x W _ us ps hn hfs g off cap hTab stp stp_ok (fun l _ a _ k hk => by
      have h9 := dec_x W hU (a.v.extract k a.v.size) (by rw [ByteArray.size_extract]; omega)
      rw [byt_from] at h9
      exact h9)).mono ?_
    rintro _ w' ⟨rfl, y⟩
    exact ⟨rfl, y⟩
  have hPa : Hid (∀ W s ps, Ext w W → Reads s ps → Calls Tryz.prog 8 #[.string s] W fun e w' => ∃ qa qn qc, e = .returned (.tuple #[.agg #[.slice qa qn qc], .nilIface]) ∧ Hid (∃ us, NmIn w' (.slice qa qn qc) us ps) ∧ Hid (Ext W w')) := fun W s ps x h => parse_reads W (hth.out.1.ext6 x) s ps h
  have hAl : ∀ W, Hid (Ext w W) → Calls Tryz.prog 12 #[] W fun e w' => e = .returned (.bool true) ∧ Hid (Ext w w') := by
    intro W x
    refine (alive_any W (hth.out.1.ext6 x.out) (hth.out.2.1.ext x.out)).mono ?_
    rintro _ w' ⟨rfl, z⟩
    exact ⟨rfl, x.out.trans z⟩
  obtain ⟨S, hS⟩ : ∃ S, Hid (S = str (printP stp pts).1) := ⟨str (printP stp pts).1, (rfl : str (printP stp pts).1 = str (printP stp pts).1)⟩
  obtain ⟨E, hE⟩ : ∃ E, Hid (E = (printP stp pts).2) := ⟨(printP stp pts).2, (rfl : (printP stp pts).2 = (printP stp pts).2)⟩
  have hSS : (S.toList == S.toList) = true := by simp
  have hP1 : ∀ W, Hid (Ext w W) → Calls Tryz.prog 15 #[.agg #[.slice a n c]] W fun e w' => e = .returned (.tuple #[.string S, .int .i64 E]) ∧ Hid (Ext w w') := by
    intro W x
    have h0 := hPr.out W _ us pts x.out (hqh.out.ext x.out) hfh.out
    rw [← hS.out, ← hE.out] at h0
    refine h0.mono ?_
    rintro _ w' ⟨rfl, y⟩
    exact ⟨rfl, x.out.trans y.out⟩
  obtain ⟨W0, hW0⟩ : ∃ W, W = w.alloc (.cells #[.slice a n c] 24) := ⟨_, rfl⟩
  have x0 : Ext w W0 := by rw [hW0]; exact (Ext.refl w).alloc _
  have b0 : W0.cell? ⟨w.heap.size, 0, none⟩ = some (.slice a n c) := by rw [hW0]; simp
  clear hq ht hr hT hf
  go_enter Tryz.func6, Tryz.ntmps6
  rw [hW0] at b0
  go_wp2_with fail
  rw [← hW0] at b0 ⊢
  clear hW0
  go_at_call 13
  refine (hB1 W0 x0).mono ?_
  rintro _ w1 ⟨rfl | ⟨rfl, hc1⟩, x1⟩
  · go_wp2
    go_ret
    exact ⟨rfl, x0.trans x1⟩
  have b1 := x1.cell b0
  have xw1 : Hid (Ext w w1) := x0.trans x1
  have hP1' : Calls Tryz.prog 15 #[.agg #[.slice a n c]] w1 fun e w' => e = .returned (.tuple #[.string S, .int .i64 E]) ∧ w'.cell? ⟨w.heap.size, 0, none⟩ = some (.slice a n c) ∧ Hid (Ext w w') := by
    have h0 := hPr.out w1 _ us pts xw1.out (hqh.out.ext xw1.out) hfh.out
    rw [← hS.out, ← hE.out] at h0
    refine h0.mono ?_
    rintro _ w' ⟨rfl, y⟩
    exact ⟨rfl, y.out.cell b1, xw1.out.trans y.out⟩
  clear b0 x0 x1 hB1 hc1 hP1
  go_upto_if 25 with (go_at_call 15; refine hP1'.mono ?_; rintro _ w2 ⟨rfl, b2, x2⟩)
  clear b1 hP1'
  go_cut [7, 8, 9, 10] from 24 to 54 (fun s7 s8 s9 s10 wx => Hid (Ext w wx))
  case first =>
    by_cases hE0 : E = 0
    · have hEr : Hid ((0 : Int) = (printP stp pts).2) := by
        have h0 := hE.out
        rw [hE0] at h0
        exact h0
      have hRd : Hid (Reads S pts) := by
        have h0 := reads_print hEr.out.symm
        rw [← hS.out] at h0
        exact h0
      subst hE0
      have h4 : Calls Tryz.prog 8 #[.string S] w2 fun e w' => ∃ qa qn qc, e = .returned (.tuple #[.agg #[.slice qa qn qc], .nilIface]) ∧ Hid (∃ us, NmIn w' (.slice qa qn qc) us pts) ∧ w'.cell? ⟨w.heap.size, 0, none⟩ = some (.slice a n c) ∧ Hid (Ext w w') := by
        refine (hPa.out w2 S pts x2.out hRd.out).mono ?_
        rintro _ w' ⟨qa, qn, qc, rfl, hn, y⟩
        exact ⟨qa, qn, qc, rfl, hn, y.out.cell b2, x2.out.trans y.out⟩
      go_upto_region 6 with (go_at_call 8; refine h4.mono ?_; rintro _ w3 ⟨qa, qn, qc, rfl, hn3, b3, x3⟩)
      obtain ⟨W3, hW3⟩ : ∃ W, W = w3.alloc (.cells #[.slice qa qn qc] 24) := ⟨_, rfl⟩
      have y3 : Ext w3 W3 := by rw [hW3]; exact (Ext.refl w3).alloc _
      have m3 : W3.cell? ⟨w3.heap.size, 0, none⟩ = some (.slice qa qn qc) := by rw [hW3]; simp
      have hn : Hid (∃ us, NmIn W3 (.slice qa qn qc) us pts) := by
        obtain ⟨u, h⟩ := hn3.out
        exact ⟨u, h.ext y3⟩
      have c3 := y3.cell b3
      have xW : Hid (Ext w W3) := x3.out.trans y3
      rw [← hW3]
      generalize w3.heap.size = B3 at *
      clear hW3 y3 h4 hn3 b3 x3
      have h5 : Calls Tryz.prog 15 #[.agg #[.slice qa qn qc]] W3 fun e w' => e = .returned (.tuple #[.string S, .int .i64 0]) ∧ w'.cell? ⟨w.heap.size, 0, none⟩ = some (.slice a n c) ∧ w'.cell? ⟨B3, 0, none⟩ = some (.slice qa qn qc) ∧ Hid (Ext W3 w') := by
        obtain ⟨u, h⟩ := hn.out
        have h0 := hPr.out W3 _ u pts xW.out h hfh.out
        rw [← hS.out, ← hEr.out] at h0
        refine h0.mono ?_
        rintro _ w' ⟨rfl, y⟩
        exact ⟨rfl, y.out.cell c3, y.out.cell m3, y⟩
      have h6 : ∀ W, Hid (Ext W3 W) → Calls Tryz.prog 22 #[.agg #[.slice qa qn qc], .agg #[.slice a n c]] W fun e w' => e = .returned (.bool true) ∧ Hid (Ext w w') := by
        intro W x
        obtain ⟨u, h⟩ := hn.out
        refine (same_true W _ _ u us pts (h.ext x.out) (hqh.out.ext (xW.out.trans x.out))).mono ?_
        rintro _ w' ⟨rfl, y⟩
        exact ⟨rfl, (xW.out.trans x.out).trans y⟩
      clear hEr hPr hPa hAl c3
      go_wp2_with fail
      go_at_call 15
      refine h5.mono ?_
      rintro _ w4 ⟨rfl, b4, m4, x4⟩
      go_wp2_with (go_at_call 22; refine (h6 _ x4).mono ?_; rintro _ w5 ⟨rfl, x5⟩)
      go_meet
      exact x5
    · have hEb : (E == 0) = false := by simpa using hE0
      have hSe : Hid (S = ⟨#[]⟩) := by
        have h0 := print_bad (pts := pts) (by rw [← hE.out]; exact hE0)
        show S = _
        rw [hS.out, h0]; rfl
      have hSv := hSe.out
      clear hSe
      subst hSv
      clear hPr hPa hAl hE0
      go_wp2
      go_meet
      exact x2
  case rest =>
    clear x2 b2
    have hcx : Hid (Ext w wc) := hcut
    clear hcut
    rcases parse_any wc (hth.out.1.ext6 hcx.out) text with ⟨ps, hRd, hTk⟩ | hBad
    · have hts' : Hid (text.size ≤ 65536) := hRd.1
      have h7 : Calls Tryz.prog 8 #[.string text] wc fun e w' => ∃ qa qn qc, e = .returned (.tuple #[.agg #[.slice qa qn qc], .nilIface]) ∧ Hid (∃ us, NmIn w' (.slice qa qn qc) us ps) ∧ Hid (Ext w w') := by
        refine (hPa.out wc text ps hcx.out hRd).mono ?_
        rintro _ w' ⟨qa, qn, qc, rfl, hn, y⟩
        exact ⟨qa, qn, qc, rfl, hn, hcx.out.trans y.out⟩
      have hTkh : Hid (Took text ps) := hTk
      have hfs : Hid (∀ l ∈ ps, Fits l) := hTk.fits hRd.1
      clear hRd hTk
      go_upto_region 12 with (go_at_call 8; refine h7.mono ?_; rintro _ w6 ⟨qa, qn, qc, rfl, hn6, x6⟩)
      obtain ⟨W6, hW6⟩ : ∃ W, W = w6.alloc (.cells #[.slice qa qn qc] 24) := ⟨_, rfl⟩
      have y6 : Ext w6 W6 := by rw [hW6]; exact (Ext.refl w6).alloc _
      have m6 : W6.cell? ⟨w6.heap.size, 0, none⟩ = some (.slice qa qn qc) := by rw [hW6]; simp
      have hn : Hid (∃ us, NmIn W6 (.slice qa qn qc) us ps) := by
        obtain ⟨u, h⟩ := hn6.out
        exact ⟨u, h.ext y6⟩
      have xW : Hid (Ext w W6) := x6.out.trans y6
      rw [← hW6]
      generalize w6.heap.size = B6 at *
      clear hW6 h7 x6 y6 hn6
      obtain ⟨t, htt⟩ : ∃ t, Hid (t = str (printP stp ps).1) := ⟨str (printP stp ps).1, (rfl : str (printP stp ps).1 = str (printP stp ps).1)⟩
      obtain ⟨F, hF⟩ : ∃ F, Hid (F = (printP stp ps).2) := ⟨(printP stp ps).2, (rfl : (printP stp ps).2 = (printP stp ps).2)⟩
      have h8 : Calls Tryz.prog 15 #[.agg #[.slice qa qn qc]] W6 fun e w' => e = .returned (.tuple #[.string t, .int .i64 F]) ∧ w'.cell? ⟨B6, 0, none⟩ = some (.slice qa qn qc) ∧ Hid (Ext W6 w') := by
        obtain ⟨u, h⟩ := hn.out
        have h0 := hPr.out W6 _ u ps xW.out h hfs.out
        rw [← htt.out, ← hF.out] at h0
        refine h0.mono ?_
        rintro _ w' ⟨rfl, y⟩
        exact ⟨rfl, y.out.cell m6, y⟩
      have hTP : ((F = 0 ∧ Hid (t.size ≤ 3 * text.size)) ∧ Hid (Reads t ps)) ∨ (F = 3 ∧ Hid (Reads t [])) := by
        rcases took_print hTkh.out with ⟨e1, e2⟩ | e1
        · refine .inl ⟨⟨hF.out.trans e1, ?_⟩, ?_⟩
          · show t.size ≤ _
            rw [htt.out, ← byt_length, byt_str]; exact e2
          · show Reads t ps
            rw [htt.out]; exact reads_print e1
        · refine .inr ⟨hF.out.trans e1, ?_⟩
          show Reads t []
          rw [htt.out, print_bad (by rw [e1]; decide)]; exact reads_nil
      clear hTkh htt hF
      have h9 : ∀ W qs, Hid (Ext W6 W) → W.cell? ⟨B6, 0, none⟩ = some (.slice qa qn qc) → Hid (Reads t qs) → Calls Tryz.prog 8 #[.string t] W fun e w' => ∃ ka kn kc, e = .returned (.tuple #[.agg #[.slice ka kn kc], .nilIface]) ∧ Hid (∃ us, NmIn w' (.slice ka kn kc) us qs) ∧ w'.cell? ⟨B6, 0, none⟩ = some (.slice qa qn qc) ∧ Hid (Ext W6 w') := by
        intro W qs x hc hR
        refine (hPa.out W t qs (xW.out.trans x.out) hR.out).mono ?_
        rintro _ w' ⟨ka, kn, kc, rfl, hk, y⟩
        exact ⟨ka, kn, kc, rfl, hk, y.out.cell hc, x.out.trans y.out⟩
      clear hPr hPa
      go_upto_region 14 with (go_at_call 15; refine h8.mono ?_; rintro _ w7 ⟨rfl, m7, x7⟩)
      rcases hTP with ⟨⟨rfl, hle⟩, hR⟩ | ⟨rfl, hR⟩
      · have h10 := h9 w7 ps x7 m7 hR
        have hle1 : ¬ (3 * (text.size : Int) < (t.size : Int)) := by have := hle.out; omega
        have hwr : IntKind.i64.wrap (3 * (text.size : Int)) = 3 * (text.size : Int) := by rw [IntKind.wrap_i64]; have := hts'.out; omega
        clear h9
        go_upto_region 15 with (go_at_call 8; refine h10.mono ?_; rintro _ w8 ⟨ka, kn, kc, rfl, hk8, m8, x8⟩)
        obtain ⟨W8, hW8⟩ : ∃ W, W = w8.alloc (.cells #[.slice ka kn kc] 24) := ⟨_, rfl⟩
        have y8 : Ext w8 W8 := by rw [hW8]; exact (Ext.refl w8).alloc _
        have k8 : W8.cell? ⟨w8.heap.size, 0, none⟩ = some (.slice ka kn kc) := by rw [hW8]; simp
        have m9 := y8.cell m8
        have h11 : ∀ W, Hid (Ext W8 W) → Calls Tryz.prog 22 #[.agg #[.slice ka kn kc], .agg #[.slice qa qn qc]] W fun e w' => e = .returned (.bool true) ∧ Hid (Ext w w') := by
          intro W x
          obtain ⟨u, h⟩ := hk8.out
          obtain ⟨v, g⟩ := hn.out
          have z : Ext W6 W := (x8.out.trans y8).trans x.out
          refine (same_true W _ _ u v ps (h.ext (y8.trans x.out)) (g.ext z)).mono ?_
          rintro _ w' ⟨rfl, y⟩
          exact ⟨rfl, (xW.out.trans z).trans y⟩
        have h11' := h11 W8 (Ext.refl W8)
        rw [← hW8]
        generalize w8.heap.size = B8 at *
        clear hW8 h10 y8 h11 m8 hk8
        go_wp2_with (first
          | (go_at_call 22; refine h11'.mono ?_; rintro _ w9 ⟨rfl, x9⟩)
          | (go_at_call 12; refine (hAl _ x9).mono ?_; rintro _ w10 ⟨rfl, x10⟩))
        go_ret
        exact ⟨rfl, x10.out⟩
      · have h10 := h9 w7 [] x7 m7 hR
        clear h9
        go_upto_region 15 with (go_at_call 8; refine h10.mono ?_; rintro _ w8 ⟨ka, kn, kc, rfl, hk8, m8, x8⟩)
        have x9 : Hid (Ext w (w8.alloc (.cells #[.slice ka kn kc] 24))) := (xW.out.trans x8.out).trans ((Ext.refl w8).alloc _)
        generalize w8.alloc (.cells #[.slice ka kn kc] 24) = W8 at *
        clear h10
        go_wp2_with (go_at_call 12; refine (hAl _ x9).mono ?_; rintro _ w10 ⟨rfl, x10⟩)
        go_ret
        exact ⟨rfl, x10.out⟩
    · have h7 : Calls Tryz.prog 8 #[.string text] wc fun e w' => ∃ g : Nat, e = .returned (.tuple #[.agg #[.slice none 0 0], .iface 58 (.pointer (some ⟨g, 0, none⟩))]) ∧ Hid (Ext w w') := by
        refine hBad.mono ?_
        rintro _ w' ⟨g, rfl, y⟩
        exact ⟨g, rfl, hcx.out.trans y.out⟩
      clear hBad hPr hPa
      go_upto_region 12 with (go_at_call 8; refine h7.mono ?_; rintro _ w6 ⟨g, rfl, x6⟩)
      obtain ⟨W6, hW6⟩ : ∃ W, W = w6.alloc (.cells #[.slice none 0 0] 24) := ⟨_, rfl⟩
      have m6 : W6.cell? ⟨w6.heap.size, 0, none⟩ = some (.slice none 0 0) := by rw [hW6]; simp
      have xW : Hid (Ext w W6) := x6.out.trans (by rw [hW6]; exact (Ext.refl w6).alloc _)
      rw [← hW6]
      generalize w6.heap.size = B6 at *
      clear hW6 h7 x6
      go_wp2_with (go_at_call 12; refine (hAl _ xW).mono ?_; rintro _ w7 ⟨rfl, x7⟩)
      go_ret
      exact ⟨rfl, x7.out⟩
end Go.Proofs.YtfonmpahbjijeaaGreatDoor
