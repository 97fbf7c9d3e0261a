/-
  checkWords and isTwice where all is well.
-/
import Derived.Test.YtfiijlmpfpmgiaaGreatDoorSoidToSoid2
import Derived.Test.YtfiijlmpfpmgiaaGreatDoorSmapToStys
import Derived.Test.YtfiijlmpfpmgiaaGreatDoorStwinToXpush
import Derived.RangeFuncBox
namespace Go.Proofs.YtfiijlmpfpmgiaaGreatDoor
open Go.RowKit

/-- an Oid and names that may be -/
def okWords (oid : ByteArray) (names : List ByteArray) : Prop := soidB (byt oid) = true ∧ oid.size ≤ 65536 ∧ (∀ y ∈ names, swordB (byt y) = true ∧ y.size ≤ 65536) ∧ 0 < names.length ∧ names.length ≤ 16
set_option maxRecDepth 100000 in
set_option maxHeartbeats 2000000 in
theorem checkWords_ok (w : World) (oid : ByteArray) (v : Value) (names : List ByteArray) (hs : Sl encS w v names) (hok : okWords oid names) :
    Calls Tryz.prog 86 #[.string oid, v] w fun e w' => e = .returned (.int .i64 0) ∧ Ext w w' := by
  obtain ⟨h1, h2, h3, h4, h5⟩ := hok
  have ho := fun w => isOid_any w oid (by omega)
  rw [h1] at ho
  have hsh : Hid (Sl encS w v names) := hs
  obtain ⟨a, n, c, rfl, hn⟩ := hs.shape
  have hn1 : 0 < n := by rw [hn.out]; exact h4
  have hn2 : n ≤ 16 := by rw [hn.out]; exact h5
  have hcap := hsh.out.len.2.1
  have i1 : ¬ (65536 : Int) < (oid.size : Int) := by omega
  have i2 : ((n : Int) == 0) = false := by simpa using (show (n : Int) ≠ 0 by omega)
  have i3 : ¬ (16 : Int) < (n : Int) := by omega
  clear h1 h2 h4 h5
  go_enter Tryz.func86, Tryz.ntmps86
  go_wp2_with (go_at_call 117; refine (ho _).mono ?_; rintro _ w1 ⟨rfl, x1⟩)
  have hx1 : Hid (Ext w w1) := x1
  clear x1
  go_loopw [6, 22] (fun _ i wr => ∃ k : Nat, k ≤ n ∧ i = .int .i64 k ∧ wr = w1) (fun _ i _ => n - (intOf i).toNat)
  case atStart => exact ⟨0, Nat.zero_le _, rfl, rfl⟩
  case round =>
    obtain ⟨k, hk, rfl, rfl⟩ := hrel
    by_cases hlt : k < n
    · have hlt' : (k : Int) < (n : Int) := by omega
      have hkn : k < names.length := by rw [← hn.out]; exact hlt
      obtain ⟨g, o, rfl, ck⟩ := (hsh.out.ext hx1.out).at k hkn
      obtain ⟨q1, q2⟩ := h3 names[k] (List.getElem_mem _)
      unfold encS at ck
      generalize names[k] = y at *
      have hw := fun w => isWordS_any w y (by omega)
      rw [q1] at hw
      have i4 : ¬ (65536 : Int) < (y.size : Int) := by omega
      clear q1 q2
      go_wp2_with (go_at_call 118; refine (hw _).mono ?_; rintro _ w2 ⟨rfl, rfl⟩)
      go_roundw
      case rel => exact ⟨k + 1, hlt, by go_num, by first | rfl | trivial⟩
      case measure => simp [intOf]; omega
    · have hlt' : ¬ (k : Int) < (n : Int) := by omega
      go_wp2
      go_ret
      exact ⟨rfl, hx1.out⟩

/-! slices.Contains, slices.ContainsFunc of texts -/
set_option maxRecDepth 100000 in
set_option maxHeartbeats 2000000 in
theorem indexS_none (w : World) (v : Value) (l : List ByteArray) (x : ByteArray) (hs : Sl encS w v l) (hx : ∀ y ∈ l, y ≠ x) (hl : l.length ≤ 1000000000) :
    Calls Tryz.prog 154 #[v, .string x] w fun e w' => e = .returned (.int .i64 (-1)) ∧ w' = w := by
  have hsh : Hid (Sl encS w v l) := hs
  obtain ⟨a, n, c, rfl, hn⟩ := hs.shape
  have hn2 : n ≤ 1000000000 := by rw [hn.out]; exact hl
  have hcap := hsh.out.len.2.1
  go_enter Tryz.func154, Tryz.ntmps154
  go_wp2
  go_loopw [5, 8] (fun _ i wr => ∃ k : Nat, k ≤ n ∧ i = .int .i64 k ∧ wr = w) (fun _ i _ => n - (intOf i).toNat)
  case atStart => exact ⟨0, Nat.zero_le _, rfl, rfl⟩
  case round =>
    obtain ⟨k, hk, rfl, rfl⟩ := hrel
    by_cases hlt : k < n
    · have hlt' : (k : Int) < (n : Int) := by omega
      have hkn : k < l.length := by rw [← hn.out]; exact hlt
      obtain ⟨g, o, rfl, ck⟩ := hsh.out.at k hkn
      have q1 := hx l[k] (List.getElem_mem _)
      unfold encS at ck
      generalize l[k] = y at *
      have q2 : (x.toList == y.toList) = false := by
        rw [ByteArray.toList_eq, ByteArray.toList_eq]
        simp only [beq_eq_false_iff_ne, ne_eq]
        intro e
        exact q1 (by
          have : str (byt y) = str (byt x) := by rw [byt, byt, e]
          rwa [str_byt, str_byt] at this)
      go_wp2
      go_roundw
      case rel => exact ⟨k + 1, hlt, by go_num, by first | rfl | trivial⟩
      case measure => simp [intOf]; omega
    · have hlt' : ¬ (k : Int) < (n : Int) := by omega
      go_wp2
      go_ret
      exact ⟨rfl, rfl⟩
set_option maxRecDepth 100000 in
set_option maxHeartbeats 1000000 in
theorem containsS_none (w : World) (v : Value) (l : List ByteArray) (x : ByteArray) (hs : Sl encS w v l) (hx : ∀ y ∈ l, y ≠ x) (hl : l.length ≤ 1000000000) :
    Calls Tryz.prog 119 #[v, .string x] w fun e w' => e = .returned (.bool false) ∧ w' = w := by
  have h1 := indexS_none w v l x hs hx hl
  obtain ⟨a, n, c, rfl, hn⟩ := hs.shape
  go_enter Tryz.func119, Tryz.ntmps119
  go_wp2_with (go_at_call 154; refine h1.mono ?_; rintro _ w2 ⟨rfl, rfl⟩)
  go_ret
  exact ⟨rfl, rfl⟩
end Go.Proofs.YtfiijlmpfpmgiaaGreatDoor

/-
  isTwice where all is well: each word leads to the place, none stands twice.
-/
namespace Go.Proofs.YtfiijlmpfpmgiaaGreatDoor
open Go.RowKit Go.Maps

def lowS (y : ByteArray) : ByteArray := str (lowL (byt y))
set_option maxRecDepth 100000 in
set_option maxHeartbeats 1000000 in
theorem twice1 (w : World) (b1 b2 m n : Nat) (f : List UInt8 → Option Int) (z : Int) (y : ByteArray) (h1 : Boxed w b1 149 (.map (some m))) (h2 : Boxed w b2 3 (.int .i64 z)) (hm : MapAt w m n f) (hy : y.size ≤ maxLen) (hf : f (byt y) = some z) :
    Calls Tryz.prog 121 #[.string y, .pointer (some ⟨b1, 0, none⟩), .pointer (some ⟨b2, 0, none⟩)] w fun e w' => e = .returned (.bool false) ∧ w' = w := by
  have c1 := h1.cell
  have c2 := h2.cell
  have hk := hm.look y hy
  rw [hf] at hk
  have hk' : (Instr.lookup 149 (.map (some m)) (.string y) false).run Tryz.prog w = .ok (.int .i64 z) w := hk
  clear hk h1 h2 hm hf
  go_enter Tryz.func121, Tryz.ntmps121
  go_wp2
  go_ret
  exact ⟨rfl, rfl⟩
set_option maxRecDepth 100000 in
set_option maxHeartbeats 2000000 in
theorem indexF_none (w : World) (v : Value) (l : List ByteArray) (b1 b2 m n : Nat) (f : List UInt8 → Option Int) (z : Int) (hs : Sl encS w v l) (h1 : Boxed w b1 149 (.map (some m))) (h2 : Boxed w b2 3 (.int .i64 z)) (hm : MapAt w m n f) (hx : ∀ y ∈ l, y.size ≤ maxLen ∧ f (byt y) = some z) (hl : l.length ≤ 1000000000) :
    Calls Tryz.prog 155 #[v, .func (.func 121) #[] #[.pointer (some ⟨b1, 0, none⟩), .pointer (some ⟨b2, 0, none⟩)]] w fun e w' => e = .returned (.int .i64 (-1)) ∧ w' = w := by
  have hsh : Hid (Sl encS w v l) := hs
  obtain ⟨a, k0, c, rfl, hn⟩ := hs.shape
  have hn2 : k0 ≤ 1000000000 := by rw [hn.out]; exact hl
  have hcap := hsh.out.len.2.1
  have ht := fun y (hy : y.size ≤ maxLen ∧ f (byt y) = some z) => twice1 w b1 b2 m n f z y h1 h2 hm hy.1 hy.2
  clear h1 h2 hm
  go_enter Tryz.func155, Tryz.ntmps155
  go_wp2
  go_loopw [5, 8] (fun _ i wr => ∃ k : Nat, k ≤ k0 ∧ i = .int .i64 k ∧ wr = w) (fun _ i _ => k0 - (intOf i).toNat)
  case atStart => exact ⟨0, Nat.zero_le _, rfl, rfl⟩
  case round =>
    obtain ⟨k, hk, rfl, rfl⟩ := hrel
    by_cases hlt : k < k0
    · have hlt' : (k : Int) < (k0 : Int) := by omega
      have hkn : k < l.length := by rw [← hn.out]; exact hlt
      obtain ⟨g, o, rfl, ck⟩ := hsh.out.at k hkn
      have q1 := ht _ (hx l[k] (List.getElem_mem _))
      unfold encS at ck
      generalize l[k] = y at *
      go_wp2_with (go_at_call 121; refine q1.mono ?_; rintro _ w2 ⟨rfl, rfl⟩)
      go_roundw
      case rel => exact ⟨k + 1, hlt, by go_num, by first | rfl | trivial⟩
      case measure => simp [intOf]; omega
    · have hlt' : ¬ (k : Int) < (k0 : Int) := by omega
      go_wp2
      go_ret
      exact ⟨rfl, rfl⟩
set_option maxRecDepth 100000 in
set_option maxHeartbeats 1000000 in
theorem containsF_none (w : World) (v : Value) (l : List ByteArray) (b1 b2 m n : Nat) (f : List UInt8 → Option Int) (z : Int) (hs : Sl encS w v l) (h1 : Boxed w b1 149 (.map (some m))) (h2 : Boxed w b2 3 (.int .i64 z)) (hm : MapAt w m n f) (hx : ∀ y ∈ l, y.size ≤ maxLen ∧ f (byt y) = some z) (hl : l.length ≤ 1000000000) :
    Calls Tryz.prog 120 #[v, .func (.func 121) #[] #[.pointer (some ⟨b1, 0, none⟩), .pointer (some ⟨b2, 0, none⟩)]] w fun e w' => e = .returned (.bool false) ∧ w' = w := by
  have q := indexF_none w v l b1 b2 m n f z hs h1 h2 hm hx hl
  obtain ⟨a, k0, c, rfl, hn⟩ := hs.shape
  go_enter Tryz.func120, Tryz.ntmps120
  go_wp2_with (go_at_call 155; refine q.mono ?_; rintro _ w2 ⟨rfl, rfl⟩)
  go_ret
  exact ⟨rfl, rfl⟩

/-- the words of a type lead to its place, and none stands twice -/
def okPlace (f : List UInt8 → Option Int) (z : Int) (oid : ByteArray) (names : List ByteArray) : Prop := (∀ y ∈ oid :: names.map lowS, y.size ≤ 1000000 ∧ f (byt y) = some z) ∧ (oid :: names.map lowS).Pairwise (· ≠ ·) ∧ (∀ y ∈ names, y.size ≤ 1000000) ∧ names.length ≤ 1000000
set_option maxRecDepth 100000 in
set_option maxHeartbeats 4000000 in
theorem isTwice_ok (w : World) (m n : Nat) (f : List UInt8 → Option Int) (z : Int) (oid : ByteArray) (v : Value) (names : List ByteArray) (hm : MapAt w m n f) (hs : Sl encS w v names) (hok : okPlace f z oid names) :
    Calls Tryz.prog 87 #[.map (some m), .int .i64 z, .string oid, v] w fun e w' => e = .returned (.bool false) ∧ Ext w w' := by
  obtain ⟨h1, h2, h3, h4⟩ := hok
  have hsh : Hid (Sl encS w v names) := hs
  have hmh : Hid (MapAt w m n f) := hm
  obtain ⟨a, k0, c, rfl, hn⟩ := hs.shape
  have hn2 : k0 ≤ 1000000 := by rw [hn.out]; exact h4
  have hcap := hsh.out.len.2.1
  clear hm
  go_enter Tryz.func87, Tryz.ntmps87
  go_wp2
  have B1 := ((Boxed.new w 149 (.map (some m))).alloc (.cells #[.int .i64 z] 3)).alloc (.cells #[.string oid] 9)
  have B2 := (Boxed.new (w.alloc (.cells #[.map (some m)] 149)) 3 (.int .i64 z)).alloc (.cells #[.string oid] 9)
  have R3 : RowE 9 encS (((w.alloc (.cells #[.map (some m)] 149)).alloc (.cells #[.int .i64 z] 3)).alloc (.cells #[.string oid] 9)) (fun b => w.heap.size + 2 ≤ b) (.slice (some ⟨w.heap.size + 1 + 1, 0, none⟩) 1 1) [oid] := by
    refine ⟨⟨rfl, .inr ⟨w.heap.size + 1 + 1, 1, #[.string oid], rfl, Nat.zero_le _, ?_, by simp, by unfold maxLen; omega, by simp, rfl⟩⟩, fun k hk => ?_⟩
    · have := heap_alloc_new ((w.alloc (.cells #[.map (some m)] 149)).alloc (.cells #[.int .i64 z] 3)) (.cells #[.string oid] 9)
      simp only [World.size_alloc] at this
      exact this
    · simp only [Value.ownBlock, Option.some.injEq] at hk
      omega
  have x3 : Ext w (((w.alloc (.cells #[.map (some m)] 149)).alloc (.cells #[.int .i64 z] 3)).alloc (.cells #[.string oid] 9)) := (((Ext.refl w).alloc _).alloc _).alloc _
  simp only [World.size_alloc] at B2
  go_loopw [9, 11, 16] (fun s9 _ i wr => ∃ (k : Nat) (sa : Option Addr) (sc : Nat), k ≤ k0 ∧ i = .int .i64 k ∧ s9 = .slice sa (1 + k) sc ∧ Hid (Boxed wr w.heap.size 149 (.map (some m)) ∧ Boxed wr (w.heap.size + 1) 3 (.int .i64 z) ∧ RowE 9 encS wr (fun b => w.heap.size + 2 ≤ b) (.slice sa (1 + k) sc) (oid :: (names.take k).map lowS) ∧ Ext w wr)) (fun _ _ i _ => k0 - (intOf i).toNat)
  case atStart => exact ⟨0, _, _, Nat.zero_le _, rfl, rfl, B1, B2, R3, x3⟩
  case round =>
    obtain ⟨k, sa, sc, hk, rfl, rfl, HR⟩ := hrel
    clear B1 B2 R3 x3
    by_cases hlt : k < k0
    · have hlt' : (k : Int) < (k0 : Int) := by omega
      have hkn : k < names.length := by rw [← hn.out]; exact hlt
      obtain ⟨g, o, rfl, ck⟩ := (hsh.out.ext HR.out.2.2.2).at k hkn
      have hy := h3 names[k] (List.getElem_mem _)
      have hne : ∀ y ∈ oid :: (names.take k).map lowS, y ≠ lowS names[k] := by
        have hsplit : oid :: names.map lowS = (oid :: (names.take k).map lowS) ++ (names.drop k).map lowS := by
          rw [List.cons_append, ← List.map_append, List.take_append_drop]
        rw [hsplit] at h2
        intro y hy
        refine (List.pairwise_append.1 h2).2.2 y hy _ ?_
        exact List.mem_map.2 ⟨names[k], List.mem_iff_getElem.2 ⟨0, by simp; omega, by simp⟩, rfl⟩
      have htk : Hid ((names.take (k + 1)).map lowS = (names.take k).map lowS ++ [str (lowL (byt names[k]))]) := by
        show _ = _
        rw [List.take_succ_eq_append_getElem hkn, List.map_append]; rfl
      have hsm := fun w => small_any w names[k] (by omega)
      unfold encS at ck
      have hct := fun w1 (h : RowE 9 encS w1 (fun b => w.heap.size + 2 ≤ b) (.slice sa (1 + k) sc) (oid :: (names.take k).map lowS)) => containsS_none w1 _ _ (lowS names[k]) h.sl hne (by simp; omega)
      have hct2 : ∀ w1, RowE 9 encS w1 (fun b => w.heap.size + 2 ≤ b) (.slice sa (1 + k) sc) (oid :: (names.take k).map lowS) → Calls Tryz.prog 119 #[.slice sa (1 + k) sc, .string (str (lowL (byt names[k])))] w1 fun e w' => e = .returned (.bool false) ∧ w' = w1 := hct
      clear hct
      generalize hyk : names[k] = y at *
      clear hne hyk
      generalize hq : str (lowL (byt y)) = q at *
      clear hq
      go_wp2_with (first
        | (go_at_call 119; refine (hct2 _ (RowE.ext HR.out.2.2.1 x4)).mono ?_; rintro _ w5 ⟨rfl, rfl⟩; have mk : True := trivial)
        | (go_at_call 115; clear mk; refine (hsm _).mono ?_; rintro _ w6 ⟨rfl, x6⟩)
        | (go_at_call 115; refine (hsm _).mono ?_; rintro _ w4 ⟨rfl, x4⟩)
        | (at_builtin; refine Hid.out ?_))
      obtain ⟨b1, b2, r, x⟩ := HR.out
      have x7 := (x4.trans x6).alloc (.cells #[.string q] 9)
      obtain ⟨g7, cap7, w7, hr7, r7, o7⟩ := run_append_rowS (w6.alloc (.cells #[.string q] 9)) (fun b => w.heap.size + 2 ≤ b) 59 9 59 59 _ 1 16 infoStr Tryz.underlying59 rfl _ (1 + k) _ (Row.ext (show Row wr _ 9 1 _ (1 + k) _ from by have := r; unfold RowE at this; rwa [show (oid :: (names.take k).map lowS).length = 1 + k by simp; omega] at this) x7) _ 1 (by decide) _
        (srcB Tryz.underlying59 oneS (w6.alloc (.cells #[.string q] 9)) w6.heap.size #[.string q] [q] 1 1 (heap_alloc_new w6 _) rfl rfl) (by unfold maxLen; omega) (by omega)
      have hfin : Hid (Boxed w7 w.heap.size 149 (.map (some m)) ∧ Boxed w7 (w.heap.size + 1) 3 (.int .i64 z) ∧ RowE 9 encS w7 (fun b => w.heap.size + 2 ≤ b) (.slice (some ⟨g7, 0, none⟩) (1 + (k + 1)) cap7) (oid :: (names.take (k + 1)).map lowS) ∧ Ext w w7) := by
        refine ⟨only_boxed (bext b1 x7) o7 (by omega), only_boxed (bext b2 x7) o7 (by omega), ?_, (x.trans x7).then o7 (fun b hb => by omega)⟩
        have r8 : Row w7 _ 9 1 (.slice (some ⟨g7, 0, none⟩) (1 + (k + 1)) cap7) (1 + (k + 1)) _ := r7
        refine rowE_of r8 ?_ ?_ ?_
        · rw [htk.out]; simp; omega
        · rw [htk.out]; simp [encS]
        · rintro b (hb | hb)
          · exact hb
          · have := x.size
            have := x4.size
            have := x6.size
            simp only [World.size_alloc] at hb
            have := b2.lt
            omega
      have hr7h : Hid _ := hr7
      clear b1 b2 r x hr7 r7 o7
      refine Lib.wpList_append_run _ rfl _ _ _ _ rfl _ _ rfl rfl _ _ hr7h.out ?_
      go_wp2
      go_roundw
      case rel => exact ⟨k + 1, _, _, hlt, by go_num, by rw [Nat.add_assoc], hfin⟩
      case measure => simp [intOf]; omega
    · have hlt' : ¬ (k : Int) < (k0 : Int) := by omega
      obtain rfl : k = k0 := by omega
      have hend : names.take k = names := List.take_of_length_le (by rw [← hn.out]; exact Nat.le_refl _)
      obtain ⟨b1, b2, r, x⟩ := HR.out
      rw [hend] at r
      have hcf := containsF_none wr _ _ w.heap.size (w.heap.size + 1) m n f z r.sl b1 b2 (hmh.out.ext x) (fun y hy => ⟨by have := (h1 y hy).1; unfold maxLen; omega, (h1 y hy).2⟩) (by simp; omega)
      have hxh : Hid _ := x
      clear b1 b2 r x hend HR
      go_wp2_with (go_at_call 120; refine hcf.mono ?_; rintro _ w5 ⟨rfl, rfl⟩)
      go_ret
      exact ⟨rfl, hxh.out⟩
end Go.Proofs.YtfiijlmpfpmgiaaGreatDoor
