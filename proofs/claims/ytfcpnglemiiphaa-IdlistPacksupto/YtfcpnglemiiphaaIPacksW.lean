/-
  IdlistPacks: the walk.
-/
import Derived.Test.YtfcpnglemiiphaaRpk
import Derived.Test.YtfcpnglemiiphaaRunp
import Derived.Test.YtfcpnglemiiphaaIPutsW
namespace Go.Proofs.Ytfcpnglemiiphaa
open Go.RowKit Go.Shelf

section
variable {α : Type} {enc : α → Value} {e : TypeId}
theorem rowE_after {wa w10 w11 : World} {S P : Nat → Prop} {v : Value} {l : List α} (h : RowE e enc wa S v l) (x : Ext wa w10) (k : Keep P w10 w11) (hP : ∀ g, S g → P g) : Sl enc w11 v l := by
  refine (h.sl.ext x).kept k ?_
  rintro a n c rfl hpos
  rcases h.1.2 with ⟨e, _⟩ | ⟨g, cap, cur, e, _⟩
  · cases e
  · cases e
    exact hP g (h.2 g rfl)
theorem in_belowE {w : World} {v : Value} {l : List α} (hs : Sl enc w v l) : In (fun k => k < w.heap.size) v := by
  rintro a' n' c' rfl hpos
  obtain ⟨g, o, e, hc⟩ := hs.at 0 (by have := hs.len.1; omega)
  simp only [Option.some.injEq] at e
  subst e
  exact World.block_lt_of_cell? w _ hc
theorem slE_after {wa w10 w11 : World} {P : Nat → Prop} {v : Value} {l : List α} (h : Sl enc wa v l) (x : Ext wa w10) (k : Keep P w10 w11) (hP : ∀ g, g < wa.heap.size → P g) : Sl enc w11 v l :=
  (h.ext x).kept k (fun a n c e hpos => hP _ (in_belowE h a n c e hpos))
theorem rowE_in {w : World} {v : Value} {l : List α} {n : Nat} (h : RowE e enc w (fun q => n ≤ q) v l) : RowE e enc w (fun g => n ≤ g ∧ g < w.heap.size) v l := ⟨h.1, fun g hg => ⟨h.2 g hg, Row.lt h hg⟩⟩
theorem slE_take {w : World} {a : Option Addr} {n cap : Nat} {l m : List α} (h : Sl enc w (.slice a n cap) (l ++ m)) (k : Nat) (hk : k = l.length) : Sl enc w (.slice a k cap) l := by
  subst hk
  have hl := h.len
  refine ⟨a, cap, rfl, by simp at hl; omega, hl.2.2, fun j hj => ?_⟩
  obtain ⟨g, o, e, c⟩ := h.at j (by simp; omega)
  rw [List.getElem_append_left hj] at c
  exact ⟨g, o, e, c⟩
end
theorem row_empty8 (w : World) : RowE 5 B8 (w.alloc (.cells #[] 5)) (fun q => w.heap.size ≤ q) (.slice (some ⟨w.heap.size, 0, none⟩) 0 0) [] := by
  refine ⟨⟨rfl, .inr ⟨w.heap.size, 0, #[], rfl, Nat.zero_le _, heap_alloc_new w _, Nat.le_refl _, Nat.zero_le _, rfl, rfl⟩⟩, fun k hk => ?_⟩
  simp only [Value.ownBlock, Option.some.injEq] at hk
  omega
theorem spoil_one (w : World) (va : Value) (A : List UInt64) (lo hi : Nat) (ra : RowE 33 U6 w (fun g => lo ≤ g ∧ g < hi) va A) (hA : A.length ≤ 17592186044500) :
    Calls Try.prog 16 #[.slice (some ⟨w.heap.size, 0, none⟩) 1 1] (w.alloc (.cells #[va] 22)) fun x w' => x = .returned (.bool true) ∧ Only (fun g => lo ≤ g ∧ g < hi) (w.alloc (.cells #[va] 22)) w' := by
  have x0 : Ext w (w.alloc (.cells #[va] 22)) := (Ext.refl w).alloc _
  refine (spoil_any (w.alloc (.cells #[va] 22)) w.heap.size 1 (fun _ => va) (fun _ => A.length) (fun _ => A.map U6) (by omega) (fun _ _ => hA)
    (fun k hk => by
      obtain rfl : k = 0 := by omega
      rw [cell_of_row _ w.heap.size 0 _ _ _ (heap_alloc_new w _)]; rfl)
    (fun ⟨_, _, hg⟩ => by have := Row.lt ra hg; omega)
    (fun i hi => (Row.ext ra x0).min)
    (fun i j hi hj hij => by omega)).mono ?_
  rintro _ w' ⟨rfl, ho⟩
  exact ⟨rfl, ho.mono fun g _ ⟨_, _, hg⟩ => ra.2 g hg⟩
theorem unp_len (count : Nat) : ∀ (d : Nat) (acc : List UInt64) (b : List UInt8), (unpN count d acc b).1.length ≤ acc.length + b.length
  | 0, acc, b => by simp [unpN]
  | d + 1, acc, b => by
    unfold unpN
    split
    · split
      · simp
      · rename_i he
        have he0 : (takeL b).2.2 = 0 := by simpa using he
        have hl := (takeL_len b he0).1
        split
        · simp
        · rename_i id _
          have := unp_len count d (acc ++ [id]) (takeL b).2.1
          simp at this
          omega
    · split
      · simp
      · simp
theorem unpack_len (b : List UInt8) : (unpackL b).1.length ≤ b.length := by
  unfold unpackL
  split
  · simp
  · rename_i he
    have he0 : (takeL b).2.2 = 0 := by simpa using he
    have hl := (takeL_len b he0).1
    have := unp_len (takeL b).1 ((takeL b).2.1.length + 1) [] (takeL b).2.1
    simp at this
    omega
/-- p's bytes are written over, one by one -/
structure Over (w wr : World) (p : Value) (n lo hi : Nat) : Prop where
  ex : ∃ bs : List UInt8, bs.length = n ∧ Row wr (fun g => lo ≤ g ∧ g < hi) 5 1 p n (bs.map B8)
  on : Only (fun g => lo ≤ g ∧ g < hi) w wr
theorem Over.put {w wr : World} {g n cap lo hi : Nat} (h : Over w wr (.slice (some ⟨g, 0, none⟩) n cap) n lo hi) (k : Nat) (hk : k < n) : Over w (wr.setCell ⟨g, k, none⟩ (.int .u8 7)) (.slice (some ⟨g, 0, none⟩) n cap) n lo hi := by
  obtain ⟨bs, hl, hr⟩ := h.ex
  have h1 := Row.put1 hr k (.int .u8 7) hk
  refine ⟨⟨bs.take k ++ [7] ++ bs.drop (k + 1), by simp; omega, ?_⟩, h.on.setCell (.inl (hr.2 g rfl)) _⟩
  have e : (bs.take k ++ [7] ++ bs.drop (k + 1)).map B8 = (bs.map B8).take k ++ [.int .u8 7] ++ (bs.map B8).drop (k + 1) := by simp [B8]
  rw [e]; exact h1
theorem Over.grow {w wr : World} {a : Option Addr} {n c lo hi : Nat} (h : Over w wr (.slice a n c) n lo hi) (hn : n ≤ 12582912) (ty : TypeId) :
    ∃ w9 a9 c9, (Builtin.append_ #[41, 41] ty #[.slice a n c, .slice (some ⟨wr.heap.size, 0, none⟩) 4 4]).run Try.prog (wr.alloc (.cells #[.int .u8 7, .int .u8 7, .int .u8 7, .int .u8 7] 5)) = .ok (.slice a9 (n + 4) c9) w9 ∧ Only (fun g => lo ≤ g ∧ g < hi) w w9 := by
  obtain ⟨bs, hl, hr⟩ := h.ex
  subst hl
  obtain ⟨w9, a9, c9, hrun, r9, o9⟩ := run_append8 (wr.alloc (.cells #[.int .u8 7, .int .u8 7, .int .u8 7, .int .u8 7] 5)) _ ty (.slice a bs.length c) bs (Row.alloc hr _) _ 4 [7, 7, 7, 7] (srcB Try.underlying41 one8 _ wr.heap.size _ _ 4 4 (heap_alloc_new wr _) rfl rfl) rfl (by simp; omega)
  exact ⟨w9, a9, c9, hrun, (h.on.alloc _).trans (o9.mono fun _ _ h => .inl h)⟩
theorem Keep.mono {P Q : Nat → Prop} {w w' : World} (h : Keep P w w') (hP : ∀ g, Q g → P g) : Keep Q w w' := ⟨h.1, fun k c t fz hk hc => h.2 k c t fz (hP k hk) hc⟩

set_option maxRecDepth 100000 in
set_option maxHeartbeats 16000000 in
theorem packs_walk (C : List UInt64 → Prop) (hset : SetFor C) (hC : ∀ l : List UInt64, l.length ≤ 1048576 → C l) (w : World) (v vb : Value) (l : List UInt64) (b : List UInt8) (hs : Sl U6 w v l) (hb : Sl B8 w vb b) (hl : l.length ≤ 1048576) (hbl : b.length ≤ 1048576) :
    Calls Try.prog 6 #[v, vb] w fun x w' => x = .returned (.bool true) ∧ Ext w w' := by
  have hwk := fun w1 => wakes_any w1
  have h1 := roomy_any w v l hs (by omega)
  have h2 := fun w1 (h : Ext w w1) => rPack_any w1 v l (by omega) (hs.ext h)
  have h3 := fun w1 u (h : Sl U6 w1 u l) => Pack_any C hset w1 u l (hC l hl) (by omega) h
  have h4 := fun w1 (h : Ext w w1) => rUnpack_any w1 vb b (hb.ext h) (by omega)
  have h5 := fun w1 u (h : Sl B8 w1 u b) => Unpack_any w1 u b h (by omega)
  have hpl : (packL (setL l)).length ≤ 12582912 := by
    have := setL_len l
    unfold packL
    rw [List.length_append]
    have a1 := numB_len 10 (setL l).length (by omega)
    have a2 := gaps_len (setL l) (setL l).length
    omega
  obtain ⟨⟨Y, e⟩, hY⟩ : ∃ r, unpackL b = r := ⟨_, rfl⟩
  simp only [hY] at h4 h5
  have hYl : Y.length ≤ 17592186044500 := by have h9 := unpack_len b; rw [hY] at h9; simp only at h9; omega
  generalize packL (setL l) = pk at *
  have hsh : Hid (Sl U6 w v l) := hs
  have hbh : Hid (Sl B8 w vb b) := hb
  obtain ⟨a, n, cap, rfl, _⟩ := hs.shape
  obtain ⟨ab, nb, cb, rfl, hnb⟩ := hb.shape
  clear hs hb hY
  go_enter Try.func6, Try.ntmps6
  go_wp2_with fail
  go_at_call 11
  refine h1.mono ?_
  rintro _ w1 ⟨u, rfl, hu, x1⟩
  obtain ⟨xa, xn, xc, rfl, _⟩ := hu.sl.shape
  have huh : Hid (Roomy w1 w.heap.size (.slice xa xn xc) l) := hu
  clear h1 hu
  go_wp2_with fail
  go_at_call 28
  refine (h2 _ x1).mono ?_
  rintro _ w2 ⟨u2, rfl, r2, x2⟩
  obtain ⟨a2, n2, c2, rfl, hn2⟩ := r2.sl.shape
  have r2h : Hid (RowE 5 B8 w2 (fun g => w1.heap.size ≤ g ∧ g < w2.heap.size) (.slice a2 n2 c2) pk) := rowE_in r2
  clear r2 h2
  go_wp2_with fail
  go_at_call 29
  refine (h3 _ _ (huh.out.sl.ext x2)).mono ?_
  rintro _ w3 ⟨u3, rfl, r3, x3⟩
  obtain ⟨a3, n3, c3, rfl, hn3⟩ := r3.sl.shape
  have r3h : Hid (RowE 5 B8 w3 (fun g => w2.heap.size ≤ g ∧ g < w3.heap.size) (.slice a3 n3 c3) pk) := rowE_in r3
  clear r3
  go_wp2_with fail
  go_at_call 29
  refine (h3 _ _ (huh.out.sl.ext (x2.trans x3))).mono ?_
  rintro _ w4 ⟨u4, rfl, r4, x4⟩
  obtain ⟨a4, n4, c4, rfl, hn4⟩ := r4.sl.shape
  have r4h : Hid (RowE 5 B8 w4 (fun g => w3.heap.size ≤ g ∧ g < w4.heap.size) (.slice a4 n4 c4) pk) := rowE_in r4
  clear r4 h3
  have x04 : Ext w w4 := ((x1.trans x2).trans x3).trans x4
  go_wp2_with fail
  go_at_call 30
  refine (h4 _ x04).mono ?_
  rintro _ w5 ⟨u5, rfl, r5, x5⟩
  obtain ⟨a5, n5, c5, rfl, hn5⟩ := r5.sl.shape
  have r5h : Hid (RowE 33 U6 w5 (fun g => w4.heap.size ≤ g ∧ g < w5.heap.size) (.slice a5 n5 c5) Y) := rowE_in r5
  have x05 : Ext w w5 := x04.trans x5
  clear r5 h4
  go_wp2_with (at_builtin; refine Hid.out ?_)
  obtain ⟨w5b, a5b, c5b, hr, rb, ob⟩ := run_append8 (w5.alloc (.cells #[] 5)) _ 41 _ _ (row_empty8 w5) _ _ b (srcV Try.underlying41 one8 (hbh.out.ext (x05.alloc _))) rfl (by simp; omega)
  obtain ⟨N5, hN5⟩ : ∃ N, ([] : List UInt8).length + b.length = N := ⟨_, rfl⟩
  rw [hN5] at hr rb
  refine Lib.wpList_append_run _ rfl _ _ _ _ rfl _ _ rfl rfl _ _ hr ?_
  clear hr
  have ob' : Only (fun q => w5.heap.size ≤ q) w5 w5b := ((Only.refl _ w5).alloc _).trans (ob.mono fun _ _ h => .inl h)
  have rbh : Hid (RowE 5 B8 w5b (fun q => w5.heap.size ≤ q) (.slice a5b N5 c5b) b) := by
    refine rb.to rfl rfl ?_
    rintro q (hq | hq)
    · exact hq
    · simp at hq; omega
  have x5b : Ext w5 w5b := ob'.toExt (fun _ h => h)
  clear rb ob ob'
  go_wp2_with (at_builtin; refine Hid.out ?_)
  obtain ⟨w6, a6, c6, hr, r6, o6⟩ := run_append8 (w5b.alloc (.cells #[.int .u8 165, .int .u8 165] 5)) _ 41 _ _ (Row.alloc rbh.out _) _ 2 [165, 165] (srcB Try.underlying41 one8 _ w5b.heap.size _ _ 2 2 (heap_alloc_new w5b _) rfl rfl) rfl (by simp; omega)
  rw [← hnb.out] at hr r6
  refine Lib.wpList_append_run _ rfl _ _ _ _ rfl _ _ rfl rfl _ _ hr ?_
  clear hr
  have o6' : Only (fun q => w5.heap.size ≤ q) w5b w6 := ((Only.refl _ w5b).alloc _).trans (o6.mono fun _ _ h => .inl h)
  have x6 : Ext w5 w6 := x5b.then o6' (fun _ h => h)
  have r6' : RowE 5 B8 w6 (fun q => w5.heap.size ≤ q) (.slice a6 (nb + 2) c6) (b ++ [165, 165]) := by
    refine r6.to rfl rfl ?_
    have := x5b.size
    rintro q (hq | hq)
    · exact hq
    · simp at hq; omega
  have r6h : Hid (RowE 5 B8 w6 (fun g => w5.heap.size ≤ g ∧ g < w6.heap.size) (.slice a6 (nb + 2) c6) (b ++ [165, 165])) := rowE_in r6'
  have hc6 : nb + 2 ≤ c6 := r6'.sl.len.2.1
  have hnbl : nb ≤ 1048576 := by have := hnb.out; omega
  have sm6 : Hid (Sl B8 w6 (.slice a6 nb c6) b) := slE_take r6'.sl nb hnb.out
  have x06 : Ext w w6 := x05.trans x6
  clear r6 r6' o6 o6' rbh x5b
  go_wp2_with fail
  go_at_call 31
  refine (h5 _ _ sm6.out).mono ?_
  rintro _ w7 ⟨u7, rfl, r7, x7⟩
  obtain ⟨a7, n7, c7, rfl, hn7⟩ := r7.sl.shape
  have r7h : Hid (RowE 33 U6 w7 (fun g => w6.heap.size ≤ g ∧ g < w7.heap.size) (.slice a7 n7 c7) Y) := rowE_in r7
  clear r7
  go_wp2_with fail
  go_at_call 31
  refine (h5 _ _ (sm6.out.ext x7)).mono ?_
  rintro _ w8 ⟨u8, rfl, r8, x8⟩
  obtain ⟨a8, n8, c8, rfl, hn8⟩ := r8.sl.shape
  have r8h : Hid (RowE 33 U6 w8 (fun g => w7.heap.size ≤ g ∧ g < w8.heap.size) (.slice a8 n8 c8) Y) := rowE_in r8
  clear r8 h5
  have x68 : Ext w6 w8 := x7.trans x8
  have x58 : Ext w5 w8 := x6.trans x68
  have x48 : Ext w4 w8 := x5.trans x58
  have x38 : Ext w3 w8 := x4.trans x48
  have x28 : Ext w2 w8 := x3.trans x38
  have x18 : Ext w1 w8 := x2.trans x28
  have cv3 := sl_conv (r3h.out.sl.ext x38)
  have cv2 := sl_conv (r2h.out.sl.ext x28)
  have cv4 := sl_conv (r4h.out.sl.ext x48)
  go_wp2_with fail
  go_at_call 15
  refine (same_yes _ _ _ Y (r7h.out.sl.ext x8) (r5h.out.sl.ext x58)).mono ?_
  rintro _ w9 ⟨rfl, x9⟩
  go_wp2_with fail
  go_at_call 15
  refine (same_yes _ _ _ Y (r8h.out.sl.ext x9) (r5h.out.sl.ext (x58.trans x9))).mono ?_
  rintro _ w10 ⟨rfl, x10⟩
  have x810 : Ext w8 w10 := x9.trans x10
  clear cv2 cv3 cv4 x9 x10
  obtain rfl : n3 = n2 := by rw [hn3.out, hn2.out]
  have hO0 : Hid (Over w10 w10 (.slice a3 n3 c3) n3 w2.heap.size w3.heap.size) := ⟨⟨pk, hn3.out.symm, by have h9 := RowE.ext r3h.out (x38.trans x810); unfold RowE at h9; rw [← hn3.out] at h9; exact h9⟩, Only.refl _ _⟩
  have hn3b : n3 ≤ 12582912 := by have := hn3.out; omega
  go_wp2
  go_loopw [17] (fun x17 wr => ∃ k : Nat, k ≤ n3 ∧ x17 = .int .i64 k ∧ Hid (Over w10 wr (.slice a3 n3 c3) n3 w2.heap.size w3.heap.size)) (fun x17 _ => n3 - (intOf x17).toNat)
  case atStart => exact ⟨0, Nat.zero_le _, rfl, hO0.out⟩
  case round =>
    obtain ⟨k, hk, rfl, hO⟩ := hrel
    by_cases hlt : k < n3
    · have hki : (k : Int) < (n3 : Int) := by omega
      obtain ⟨bs, hbs, hrb⟩ := hO.out.ex
      obtain ⟨g, cap', u, e', hcap', _, _, hcu, hfu⟩ := row_cell hrb k hlt
      simp only [Value.slice.injEq] at e'
      obtain ⟨rfl, -, rfl⟩ := e'
      clear hrb
      go_wp2
      go_roundw
      case rel => exact ⟨k + 1, hlt, by go_num, hO.out.put k hlt⟩
      case measure => simp [intOf]; omega
    · obtain rfl : k = n3 := by omega
      obtain ⟨w12, a12, c12, hr, ho⟩ := hO.out.grow hn3b 41
      clear hO hO0
      go_wp2_with (at_builtin; refine Hid.out ?_)
      refine Lib.wpList_append_run _ rfl _ _ _ _ rfl _ _ rfl rfl _ _ hr ?_
      clear hr
      have z2 := x2.size
      have z3 := x3.size
      have z4 := x4.size
      have z5 := x5.size
      have z6 := x6.size
      have z7 := x7.size
      have z8 := x8.size
      have hk1 : Keep (fun g => ¬ (w2.heap.size ≤ g ∧ g < w3.heap.size)) w10 w12 := Keep.ofOnly ho (fun g h1 h2 => h1 h2)
      have sq := rowE_after r4h.out (x48.trans x810) hk1 (fun g h => by omega)
      have sw := rowE_after r2h.out (x28.trans x810) hk1 (fun g h => by omega)
      have ru : Hid (RowE 33 U6 w12 (fun g => w6.heap.size ≤ g ∧ g < w7.heap.size) (.slice a7 n7 c7) Y) := Row.kept (RowE.ext r7h.out (x8.trans x810)) ho (fun g h => by omega)
      have cvq := sl_conv sq
      have cvw := sl_conv sw
      clear sq sw
      go_wp2_with fail
      go_at_call 16
      refine (spoil_one w12 _ Y w6.heap.size w7.heap.size ru.out hYl).mono ?_
      rintro _ w14 ⟨rfl, ho2⟩
      have hk2 : Keep (fun g => ¬ (w6.heap.size ≤ g ∧ g < w7.heap.size)) (w12.alloc (.cells #[.slice a7 n7 c7] 22)) w14 := Keep.ofOnly ho2 (fun g h1 h2 => h1 h2)
      have hk3 : Keep (fun g => ¬ (w2.heap.size ≤ g ∧ g < w3.heap.size) ∧ ¬ (w6.heap.size ≤ g ∧ g < w7.heap.size)) w10 w14 :=
        ((hk1.mono (fun g h => h.1)).trans (Keep.ext ((Ext.refl w12).alloc _))).trans (hk2.mono (fun g h => h.2))
      have sv : Hid (Sl U6 w14 (.slice a8 n8 c8) Y) := rowE_after r8h.out x810 hk3 (fun g h => by omega)
      have sy : Hid (Sl U6 w14 (.slice a5 n5 c5) Y) := rowE_after r5h.out (x58.trans x810) hk3 (fun g h => by omega)
      have sr : Hid (Sl B8 w14 (.slice a6 (nb + 2) c6) (b ++ [165, 165])) := rowE_after r6h.out (x68.trans x810) hk3 (fun g h => by omega)
      have rx : Hid (Roomy w14 w.heap.size (.slice xa xn xc) l) := roomy_after huh.out (x18.trans x810) hk3 (fun g h => by omega)
      have z1 := x1.size
      have sl14 : Hid (Sl U6 w14 (.slice a n cap) l) := slE_after hsh.out ((x1.trans x18).trans x810) hk3 (fun g h => by omega)
      have sb14 : Hid (Sl B8 w14 (.slice ab nb cb) b) := slE_after hbh.out ((x1.trans x18).trans x810) hk3 (fun g h => by omega)
      have x014 : Ext w w14 := ((((x1.trans x18).trans x810).then ho (fun g h => by omega)).alloc _).then ho2 (fun g h => by omega)
      clear hk1 hk2 hk3 cvq cvw ho ho2 ru r2h r3h r4h r5h r6h r7h r8h huh hsh hbh x810 x18 x28 x38 x48 x58 x68 x1 x2 x3 x4 x5 x6 x7 x8 x04 x05 x06
      go_wp2_with fail
      go_at_call 15
      refine (same_yes _ _ _ Y sv.out sy.out).mono ?_
      rintro _ w15 ⟨rfl, x15⟩
      have cvm := sl_conv (slE_take (sr.out.ext x15) nb hnb.out)
      have cvb := sl_conv (sb14.out.ext x15)
      obtain ⟨g6, o6, rfl, q1⟩ := (sr.out.ext x15).at nb (by have := hnb.out; simp; omega)
      obtain ⟨g6', o6', e6, q2⟩ := (sr.out.ext x15).at (nb + 1) (by have := hnb.out; simp; omega)
      simp only [Option.some.injEq, Addr.mk.injEq, and_true] at e6
      obtain ⟨rfl, rfl⟩ := e6
      have q1' : w15.cell? ⟨g6, o6 + nb, none⟩ = some (.int .u8 165) := by
        rw [q1, List.getElem_append_right (by have := hnb.out; omega)]
        have : nb - b.length = 0 := by have := hnb.out; omega
        simp only [this]; rfl
      have q2' : w15.cell? ⟨g6, o6 + (nb + 1), none⟩ = some (.int .u8 165) := by
        rw [q2, List.getElem_append_right (by have := hnb.out; omega)]
        have : nb + 1 - b.length = 1 := by have := hnb.out; omega
        simp only [this]; rfl
      clear q1 q2
      have hi1 : (nb : Int) < ((nb + 2 : Nat) : Int) := by omega
      have hi2 : (nb : Int) + 1 < ((nb + 2 : Nat) : Int) := by omega
      go_wp2_with fail
      go_at_call 18
      refine (kept_any _ _ _ _ l (rx.out.ext x15) (sl14.out.ext x15)).mono ?_
      rintro _ w16 ⟨rfl, x16⟩
      go_wp2_with fail
      go_at_call 20
      refine (hwk _).mono ?_
      rintro _ w17 ⟨rfl, x17⟩
      go_wp2_with fail
      go_ret
      exact ⟨rfl, ((x014.trans x15).trans x16).trans x17⟩
end Go.Proofs.Ytfcpnglemiiphaa
