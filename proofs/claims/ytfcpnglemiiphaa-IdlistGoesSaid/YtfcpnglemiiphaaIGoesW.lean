/-
  IdlistGoes: the walk.
-/
import Derived.Test.YtfcpnglemiiphaaIgo
import Derived.Test.YtfcpnglemiiphaaIPutsW
import Derived.Laws.EntriesVeiled
namespace Go.Proofs.Ytfcpnglemiiphaa
open Go.RowKit Go.Shelf
attribute [local go_sem] Oper.semAt_some

theorem eqIn_func (d : Nat) (fn : Fn) (a b : Array Value) (w : World) : (Op.equalIn (d + 1) 37 (.func fn a b) .nilFunc).run Try.prog w = .ok false w := by
  simp [Op.equalIn, run_underlying Try.underlying37]
theorem eq_func_nil (fn : Fn) (a b : Array Value) (w : World) : (binOp .eql 37 (.func fn a b) .nilFunc).run Try.prog w = .ok (.bool false) w := by
  have e2 : (Op.equal 37 (.func fn a b) .nilFunc).run Try.prog w = .ok false w := eqIn_func 9999 fn a b w
  simp only [binOp]
  simp [e2]
theorem results_box {P : Program} {fn : Func} {p : Tmp} {ty : TypeId} (h : fn.results = #[.cell p ty]) (tmps : Array Value) (w : World) (g : Nat) (v : Value) (d : TypeDesc) (hp : tmps.getD p undef = .pointer (some ⟨g, 0, none⟩))
    (hc : w.cell? ⟨g, 0, none⟩ = some v) (hu : P.underlying ty = some d) (hd : (match d with | .struct _ | .array _ _ => true | _ => false) = false) : (results fn tmps).run P w = .ok v w := by
  have hp' : tmps[p]?.getD undef = .pointer (some ⟨g, 0, none⟩) := by simpa using hp
  have hagg : (isAgg ty).run P w = .ok false w := by
    unfold isAgg
    rw [Sem.run_bind, run_underlying hu w]
    cases d <;> simp_all
  simp [results, h, hp', asAddr, loadVar, Sem.run_bind, hagg, hc]
/-- x's numbers are written over -/
structure OvX (w wr : World) (g n : Nat) : Prop where
  ex : ∃ cs : Array Value, n ≤ cs.size ∧ wr.heap[g]? = some (.cells cs 33 (0, 0))
  on : Only (fun q => q = g) w wr
theorem OvX.cell {w wr : World} {g n : Nat} (h : OvX w wr g n) (k : Nat) (hk : k < n) : ∃ u, wr.cell? ⟨g, k, none⟩ = some u ∧ wr.frozen? ⟨g, k, none⟩ = false := by
  obtain ⟨cs, hn, hg⟩ := h.ex
  exact ⟨cs[k]'(by omega), by rw [cell_of_row wr g k cs _ _ hg, Array.getElem?_eq_getElem (by omega)], by simp [World.frozen?, hg]⟩
theorem OvX.put {w wr : World} {g n : Nat} (h : OvX w wr g n) (k : Nat) (u : Value) : OvX w (wr.setCell ⟨g, k, none⟩ u) g n := by
  obtain ⟨cs, hn, hg⟩ := h.ex
  exact ⟨⟨_, by simpa using hn, heap_setCell_at wr g k u cs _ _ hg⟩, h.on.setCell (.inl rfl) _⟩

set_option maxRecDepth 100000 in
set_option maxHeartbeats 16000000 in
theorem goes_walk (C : List UInt64 → Prop) (hset : SetFor C) (w : World) (v : Value) (l : List UInt64) (id : UInt64) (most : Int) (hC : C l) (hs : Sl U6 w v l) (hl : l.length ≤ 17592186044416) :
    Calls Try.prog 5 #[v, .int .u64 id.toNat, .int .i64 most] w fun x w' => x = .returned (.bool true) ∧ Ext w w' := by
  have hwk := fun w1 => wakes_any w1
  have h1 := fun w1 (h : Ext w w1) => roomy_any w1 v l (hs.ext h) (by omega)
  have h2 := fun w1 u (h : Sl U6 w1 u l) => From_any C hset w1 u l id hC (by omega) h
  have h4 := fun w1 (h : Ext w w1) => rFrom_any w1 v l id (by omega) (hs.ext h)
  have hxl : ((setL l).drop (placeL (setL l) id)).length ≤ 17592186044416 := by have := setL_len l; simp; omega
  generalize (setL l).drop (placeL (setL l) id) = xs at *
  have hsh : Hid (Sl U6 w v l) := hs
  obtain ⟨a, n, cap, rfl, _⟩ := hs.shape
  clear hs
  refine (callsIn_wide (n := 5)).1 ?_
  refine callsIn_of_wp_marks Try.func5 rfl trivial ?_ rfl
  simp only [Try.ntmps5, List.size_toArray, List.length_cons, List.length_nil, Nat.reduceAdd, Nat.reduceSub, Array.replicate_succ, Array.replicate_zero, List.push_toArray, List.append_toArray, List.nil_append, List.cons_append]
  gi_wp2_with fail
  refine ⟨trivial, ?_⟩
  gi_at_call 11
  refine (callsIn_wide.2 (h1 _ ((Ext.refl w).alloc _))).mono ?_
  rintro _ w1 ⟨u1, rfl, r1, x1⟩
  obtain ⟨xa, xn, xc, rfl, _⟩ := r1.sl.shape
  have x01 : Ext w w1 := ((Ext.refl w).alloc _).trans x1
  have hR1 : Hid (Boxed w1 w.heap.size 4 (.bool false)) := (x1.block _ (by simp)).trans (Boxed.new w 4 (.bool false))
  obtain ⟨B1, hB1, r1h⟩ : ∃ B, w.heap.size < B ∧ Hid (Roomy w1 B (.slice xa xn xc) l) := ⟨_, by simp, r1⟩
  have hlt01 : w.heap.size < w1.heap.size := hR1.out.lt
  clear h1 r1 x1
  gi_wp2_with fail
  refine ⟨trivial, ?_⟩
  gi_at_call 25
  refine (callsIn_wide.2 (h2 _ _ r1h.out.sl)).mono ?_
  rintro _ w2 ⟨Bs, u2, rfl, hb2, r2, hBs, x2⟩
  have hb2h : Hid (Boxed w2 Bs 22 u2 ∧ RowE 33 U6 w2 (fun q => w1.heap.size ≤ q) u2 xs) := ⟨hb2, r2⟩
  clear h2 hb2 r2
  dsimp only [valF]
  have hb8 := Boxed.new w2 37 .nilFunc
  have hc8 := hb8.cell
  have hf8 := hb8.frozen
  have hnil := eq_func_nil (.func 58) #[] #[.pointer (some ⟨Bs, 0, none⟩)]
  gi_wp2_with fail
  refine ⟨trivial, ?_⟩
  gi_at_call 18
  have x3 : Ext w2 (w2.alloc (.cells #[valF Bs] 37)) := (Ext.refl _).alloc _
  have hb3 : Boxed (w2.alloc (.cells #[valF Bs] 37)) w2.heap.size 37 (valF Bs) := Boxed.new w2 _ _
  refine (callsIn_wide.2 (kept_any _ B1 _ _ l (r1h.out.ext (x2.trans x3)) (hsh.out.ext ((x01.trans x2).trans x3)))).mono ?_
  rintro _ w4 ⟨rfl, x4⟩
  have x24 : Ext w2 w4 := x3.trans x4
  have x14 : Ext w1 w4 := x2.trans x24
  have hb4 : Hid (Boxed w4 w2.heap.size 37 (valF Bs)) := bExt hb3 x4
  obtain ⟨gx, ex, hgB, hgm, hgx⟩ := (r1h.out.ext x14)
  have hgl : gx < w1.heap.size := by
    obtain ⟨g', e', _, _, h'⟩ := r1h.out
    rw [ex] at e'
    simp only [Value.slice.injEq, Option.some.injEq, Addr.mk.injEq] at e'
    obtain ⟨⟨rfl, _⟩, _⟩ := e'
    exact (Array.getElem?_eq_some_iff.1 h').1
  simp only [Value.slice.injEq] at ex
  obtain ⟨rfl, rfl, rfl⟩ := ex
  have hO0 : Hid (OvX w4 w4 gx l.length) := ⟨⟨_, by simp, hgx⟩, Only.refl _ _⟩
  obtain ⟨xn, hxn⟩ : ∃ xn, l.length = xn := ⟨_, rfl⟩
  have hxnb : xn ≤ 17592186044416 := by omega
  rw [hxn] at hO0 ⊢
  clear hgx hgm r1h hb3 x3 hb8 hc8 hf8 hxn
  gi_wp2
  gi_loopw [9] (fun x9 wr => ∃ k : Nat, k ≤ xn ∧ x9 = .int .i64 k ∧ Hid (OvX w4 wr gx xn)) (fun x9 _ => xn - (intOf x9).toNat)
  case atStart => exact ⟨0, Nat.zero_le _, rfl, hO0.out⟩
  case round =>
    obtain ⟨k, hk, rfl, hO⟩ := hrel
    by_cases hlt : k < xn
    · have hki : (k : Int) < (xn : Int) := by omega
      obtain ⟨u, hcu, hfu⟩ := hO.out.cell k hlt
      gi_wp2
      go_roundw
      case rel => exact ⟨k + 1, hlt, by go_num, hO.out.put k (.int .u64 3)⟩
      case measure => simp [intOf]; omega
    · obtain rfl : k = xn := by omega
      have ho := hO.out.on
      have hz2 := x2.size
      have x05 : Ext w wr := (x01.trans x14).then ho (fun g hg => by omega)
      have x14s := x14.size
      have hbS : Hid (Boxed wr Bs 22 u2 ∧ RowE 33 U6 wr (fun q => w1.heap.size ≤ q) u2 xs) := ⟨bOnly (bExt hb2h.out.1 x24) ho (by omega), Row.kept (RowE.ext hb2h.out.2 x24) ho (fun g h1 h2 => by omega)⟩
      have hb5 : Hid (Boxed wr w2.heap.size 37 (valF Bs)) := bOnly hb4.out ho (by omega)
      have hR5 : Hid (Boxed wr w.heap.size 4 (.bool false)) := bOnly (bExt hR1.out x14) ho (by omega)
      clear hO hO0 hb4 hR1 hb2h ho x14 x24 x4 x01
      gi_wp2_with fail
      refine ⟨trivial, ?_⟩
      gi_at_call 26
      refine (callsIn_wide.2 (h4 _ x05)).mono ?_
      rintro _ w6 ⟨u6, rfl, s6, x6⟩
      obtain ⟨a6, n6, c6, rfl, hn6⟩ := s6.shape
      have s6h : Hid (Sl U6 w6 (.slice a6 n6 c6) xs) := s6
      have hc6 := s6.len.2.1
      have hn6b : n6 ≤ 17592186044416 := by have := hn6.out; omega
      clear h4 s6
      obtain ⟨m, hm⟩ : ∃ m : Nat, min (max most 0) (n6 : Int) = (m : Int) := ⟨(min (max most 0) (n6 : Int)).toNat, by omega⟩
      obtain ⟨mx, hmx⟩ : ∃ mx : Int, (if most < 0 then 0 else most) = mx := ⟨_, rfl⟩
      have hmI : (if (n6 : Int) < mx then (n6 : Int) else mx) = (m : Int) := by
        rw [← hmx]
        split <;> split <;> omega
      have hmn : m ≤ n6 := by omega
      clear hm
      have hb10 := Boxed.new w6 22 (.slice none 0 0)
      have hc10 := hb10.cell
      have hf10 := hb10.frozen
      have xx8 : Ext w6 ((w6.alloc (.cells #[.slice a6 n6 c6] 22)).alloc (.cells #[.int .i64 m] 3)) := ((Ext.refl w6).alloc _).alloc _
      have bW8 : Boxed ((w6.alloc (.cells #[.slice a6 n6 c6] 22)).alloc (.cells #[.int .i64 m] 3)) w6.heap.size 22 (.slice a6 n6 c6) := (Boxed.new w6 _ _).alloc _
      have bN8 : Boxed ((w6.alloc (.cells #[.slice a6 n6 c6] 22)).alloc (.cells #[.int .i64 m] 3)) (w6.heap.size + 1) 3 (.int .i64 m) := by
        have h := Boxed.new (w6.alloc (.cells #[.slice a6 n6 c6] 22)) 3 (.int .i64 m)
        rwa [World.size_alloc] at h
      have bE8 := bExt hb5.out (x6.trans xx8)
      have cW8 := bW8.cell
      have cN8 := bN8.cell
      have cE8 := bE8.cell
      dsimp only [valF] at cE8
      gi_wp2_with fail
      refine ⟨trivial, ?_⟩
      gi_at_call 27
      have bS8 := bExt hbS.out.1 (x6.trans xx8)
      have rS8 := RowE.ext hbS.out.2 (x6.trans xx8)
      have bR8 := bExt hR5.out (x6.trans xx8)
      have sW8 : Hid (Sl U6 _ (.slice a6 n6 c6) xs) := s6h.out.ext xx8
      have x08 := (x05.trans x6).trans xx8
      have z8 : ((w6.alloc (.cells #[.slice a6 n6 c6] 22)).alloc (.cells #[.int .i64 m] 3)).heap.size = w6.heap.size + 2 := by simp
      clear hb10 hc10 hf10 cW8 cN8 cE8 xx8 hbS hb5 hR5 s6h
      generalize (w6.alloc (.cells #[.slice a6 n6 c6] 22)).alloc (.cells #[.int .i64 m] 3) = w8 at *
      have gW : Hid (Boxed w8 w6.heap.size 22 (.slice a6 n6 c6)) := bW8
      have gN : Hid (Boxed w8 (w6.heap.size + 1) 3 (.int .i64 m)) := bN8
      have gE : Hid (Boxed w8 w2.heap.size 37 (valF Bs)) := bE8
      have gS : Hid (Boxed w8 Bs 22 u2) := bS8
      have gU : Hid (Sl U6 w8 u2 xs) := rS8.sl
      have gR : Hid (Boxed w8 w.heap.size 4 (.bool false)) := bR8
      clear bW8 bN8 bE8 bS8 rS8 bR8
      refine (callsIn_wide.2 (through_any w8 Bs u2 xs m gS.out.cell gU.out (by omega))).mono ?_
      rintro _ w9 ⟨u9, rfl, r9, x9⟩
      obtain ⟨a9, n9, c9, rfl, _⟩ := r9.sl.shape
      have s9 : Hid (Sl U6 w9 (.slice a9 n9 c9) (xs.take m)) := by have h9 := r9.sl; rwa [Int.toNat_natCast] at h9
      have cE9 := (bExt gE.out x9).cell
      have cW9 := (bExt gW.out x9).cell
      dsimp only [valF] at cE9
      clear r9
      gi_wp2_with fail
      refine ⟨trivial, ?_⟩
      gi_at_call 27
      refine (callsIn_wide.2 (through_any w9 Bs u2 xs ((n6 : Int) + 9) (bExt gS.out x9).cell (gU.out.ext x9) (by omega))).mono ?_
      rintro _ w10 ⟨u10, rfl, r10, x10⟩
      obtain ⟨a10, n10, c10, rfl, _⟩ := r10.sl.shape
      have s10 : Hid (Sl U6 w10 (.slice a10 n10 c10) xs) := by have h9 := r10.sl; rwa [List.take_of_length_le (by have := hn6.out; omega)] at h9
      have x810 := x9.trans x10
      have cW10 := (bExt gW.out x810).cell
      have cN10 := (bExt gN.out x810).cell
      clear r10 cE9 cW9
      gi_wp2_with fail
      refine ⟨trivial, ?_⟩
      gi_at_call 15
      refine (callsIn_wide.2 (same_yes _ _ _ (xs.take m) (s9.out.ext x10) (sl_take (sW8.out.ext x810) m (by have := hn6.out; omega)))).mono ?_
      rintro _ w11 ⟨rfl, x11⟩
      have x811 := x810.trans x11
      have cW11 := (bExt gW.out x811).cell
      clear cW10 cN10
      gi_wp2_with fail
      refine ⟨trivial, ?_⟩
      gi_at_call 15
      refine (callsIn_wide.2 (same_yes _ _ _ xs (s10.out.ext x11) (sW8.out.ext x811))).mono ?_
      rintro _ w12 ⟨rfl, x12⟩
      have x812 := x811.trans x12
      have bE12 := bExt gE.out x812
      have cE13 := (bE12.alloc (.cells #[.int .i64 0] 3)).cell
      dsimp only [valF] at cE13
      have hb14 := Boxed.new w12 3 (.int .i64 0)
      have hc14 := hb14.cell
      have hf14 := hb14.frozen
      clear cW11
      gi_wp2_with fail
      obtain ⟨w13, hw13⟩ : ∃ W, W = w12.alloc (.cells #[.int .i64 0] 3) := ⟨_, rfl⟩
      have x13 : Ext w12 w13 := by rw [hw13]; exact (Ext.refl _).alloc _
      have z13 : w13.heap.size = w12.heap.size + 1 := by rw [hw13]; simp
      have bK13 : Hid (Boxed w13 w12.heap.size 3 (.int .i64 ((0 : Nat) : Int))) := by show Boxed _ _ _ _; rw [hw13]; exact hb14
      rw [← hw13]
      have x813 := x812.trans x13
      have z812 := x812.size
      have jW : Hid (Boxed w13 w6.heap.size 22 (.slice a6 n6 c6)) := bExt gW.out x813
      have jN : Hid (Boxed w13 (w6.heap.size + 1) 3 (.int .i64 m)) := bExt gN.out x813
      have jE : Hid (Boxed w13 w2.heap.size 37 (valF Bs)) := bExt gE.out x813
      have jS : Hid (Boxed w13 Bs 22 u2) := bExt gS.out x813
      have jU : Hid (Sl U6 w13 u2 xs) := gU.out.ext x813
      have jR : Hid (Boxed w13 w.heap.size 4 (.bool false)) := bExt gR.out x813
      have jV : Hid (Sl U6 w13 (.slice a6 n6 c6) xs) := sW8.out.ext x813
      have lW : w6.heap.size + 1 < w12.heap.size := by have := gN.out.lt; omega
      have lE : w2.heap.size < w12.heap.size := by have := gE.out.lt; omega
      have lS : Bs < w12.heap.size := by have := gS.out.lt; omega
      have lR : w.heap.size < w12.heap.size := by have := gR.out.lt; omega
      have iU : Hid (In (fun q => q < w12.heap.size) u2) := fun a n c e h => by have := in_below gU.out a n c e h; omega
      have iV : Hid (In (fun q => q < w12.heap.size) (.slice a6 n6 c6)) := fun a n c e h => by have := in_below sW8.out a n c e h; omega
      have x013 : Ext w w13 := x08.trans x813
      clear hw13 gW gN gE gS gU gR sW8 s9 s10 bE12 cE13 hb14 hc14 hf14 x811 x812 x810 x9 x10 x11 x12 x13 x05 x6 x08 x813
      have hseq := val_stops 4 (by omega) Bs (fun q => q < w12.heap.size) u2 xs w13 iU.out jS.out.cell jU.out
      refine wpIn_rangeFunc_ownF rfl (by omega) (gf := 58) (lb := #[.pointer (some ⟨Bs, 0, none⟩)]) rfl trivial (enters_of Try.func58 (by kernel_rfl) rfl)
        hseq Keep.trans (fun W l o o' _ hl ho _ => Keep.put W l o o' hl ho) (Below.refl _ _) (fun _ => rfl)
        (fun pre W => Boxed W w12.heap.size 3 (.int .i64 (pre.length : Nat)) ∧ Below w12.heap.size w13 W)
        (fun _ pre' _ => ∃ (pre : List (Fin xs.length)) (x : Fin xs.length), pre' = pre ++ [x] ∧ ∃ h : pre.length < xs.length, xs[x.val] ≠ xs[pre.length])
        (OwnFrom.and (fun s W1 W2 row hs hg hr => Boxed.grownK hs hg (fun r e => (hr r e).2)) (ownFrom_below (by omega) (by omega)))
        (fun _ _ _ _ _ hs _ _ => hs)
        ⟨bK13.out, Below.refl _ _⟩
        (fun x => { tmps := #[Value.slice a n cap, Value.int IntKind.u64 (id.toNat : Int), Value.int IntKind.i64 most, undef, undef, undef, Value.pointer (some ⟨w.heap.size, 0, none⟩), Value.slice (some ⟨gx, 0, none⟩) k (k + 9), Value.pointer (some ⟨w2.heap.size, 0, none⟩), Value.int IntKind.i64 (k : Int), Value.pointer (some ⟨w6.heap.size, 0, none⟩), Value.pointer (some ⟨w6.heap.size + 1, 0, none⟩), Value.slice a9 n9 c9, Value.slice a10 n10 c10, Value.pointer (some ⟨w12.heap.size, 0, none⟩), Value.int IntKind.u64 (xs[x.val].toNat : Int), undef, Value.slice a n cap, Value.slice (some ⟨gx, 0, none⟩) k (k + 9), Value.slice (some ⟨gx, 0, none⟩) k (k + 9), Value.int IntKind.u64 (id.toNat : Int), Value.func (.func 58) #[] #[Value.pointer (some ⟨Bs, 0, none⟩)], Value.func (.func 58) #[] #[Value.pointer (some ⟨Bs, 0, none⟩)], Value.bool false, Value.bool false, Value.slice (some ⟨gx, 0, none⟩) k (k + 9), Value.slice a n cap, Value.bool true, Value.bool false, Value.bool false, Value.int IntKind.i64 (k : Int), Value.slice (some ⟨gx, 0, none⟩) k (k + 9), Value.int IntKind.i64 (k : Int), Value.bool false, u34, u35, u36, u37, u38, Value.slice a n cap, Value.int IntKind.u64 (id.toNat : Int), Value.slice a6 n6 c6, Value.int IntKind.i64 most, Value.int IntKind.i64 mx, Value.slice a6 n6 c6, Value.int IntKind.i64 (n6 : Int), Value.int IntKind.i64 (m : Int), Value.func (.func 58) #[] #[Value.pointer (some ⟨Bs, 0, none⟩)], Value.int IntKind.i64 (m : Int), Value.slice a9 n9 c9, Value.func (.func 58) #[] #[Value.pointer (some ⟨Bs, 0, none⟩)], Value.slice a6 n6 c6, Value.int IntKind.i64 (n6 : Int), Value.int IntKind.i64 ((n6 : Int) + 9), Value.slice a10 n10 c10, Value.slice a9 n9 c9, Value.slice a6 n6 c6, Value.int IntKind.i64 (m : Int), Value.slice a6 m c6, Value.bool true, Value.bool false, Value.bool false, Value.slice a10 n10 c10, Value.slice a6 n6 c6, Value.bool true, Value.bool false, Value.bool false, Value.func (.func 58) #[] #[Value.pointer (some ⟨Bs, 0, none⟩)], Value.int IntKind.u64 (xs[x.val].toNat : Int), undef, undef, undef, undef, undef, undef, undef, undef, undef, undef, undef, undef, undef, undef, undef, undef, undef, undef, undef, undef, undef, undef, undef, undef, undef, undef, undef, undef, undef, undef, undef, undef, undef], defers := [] }) ?assign ?body ?done ?stop
      case assign =>
        intro l x W K hK
        dsimp only [encV]
        gi_wp2
        exact hK
      case body =>
        rintro l pre x W ⟨hbk, hbl⟩ hpl
        have cK := hbk.cell
        have fK := hbk.frozen
        have cW := (show Boxed W w6.heap.size 22 (.slice a6 n6 c6) from (hbl.block _ (by omega)).trans jW.out).cell
        have cN := (show Boxed W (w6.heap.size + 1) 3 (.int .i64 m) from (hbl.block _ (by omega)).trans jN.out).cell
        have bE := show Boxed W w2.heap.size 37 (valF Bs) from (hbl.block _ (by omega)).trans jE.out
        have cE := bE.cell
        have bS : Hid (Boxed W Bs 22 u2) := (hbl.block _ (by omega)).trans jS.out
        have bR := show Boxed W w.heap.size 4 (.bool false) from (hbl.block _ (by omega)).trans jR.out
        have cR := bR.cell
        have fR := bR.frozen
        have kW : Keep (fun q => q < w12.heap.size) w13 W := ⟨hbl.size, fun q c t fz hq hc => (hbl.block q hq).trans hc⟩
        have sU : Hid (Sl U6 W u2 xs) := jU.out.kept kW iU.out
        have sV : Hid (Sl U6 W (.slice a6 n6 c6) xs) := jV.out.kept kW iV.out
        obtain ⟨p, hp⟩ : ∃ p, pre.length = p := ⟨_, rfl⟩
        have hph : Hid (pre.length = p) := hp
        rw [hp] at hpl hbk cK
        have hpn : (p : Int) < (n6 : Int) := by have := hn6.out; omega
        have hpd : decide ((n6 : Int) ≤ (p : Int)) = false := by simp only [decide_eq_false_iff_not]; omega
        have hpd2 : decide (n6 ≤ p) = false := by simp only [decide_eq_false_iff_not]; omega
        obtain ⟨g6, o6, rfl, cV⟩ := sV.out.at p hpl
        obtain ⟨G, hG⟩ : ∃ G, xs[x.val] = G := ⟨_, rfl⟩
        obtain ⟨P, hP⟩ : ∃ P, xs[p] = P := ⟨_, rfl⟩
        have hGP : Hid (∀ h : pre.length < xs.length, G ≠ P → xs[x.val] ≠ xs[pre.length]) := fun h h2 => by subst hp; rw [hG, hP]; exact h2
        have hplh : Hid (p < xs.length) := hpl
        rw [hP] at cV
        unfold U6 at cV
        rw [hG]
        have hbkh : Hid (Boxed W w12.heap.size 3 (.int .i64 (p : Int))) := hbk
        have hblh : Hid (Below w12.heap.size w13 W) := hbl
        dsimp only [valF] at cE
        clear hp hG hP hbk hbl hpl bE bR kW
        by_cases hgp : G = P
        · have hne : ((G.toNat : Int) != (P.toNat : Int)) = false := by rw [hgp]; simp
          clear hgp
          by_cases hpm : p = m
          · have hpmb : ((p : Int) == (m : Int)) = true := by simpa using (show (p : Int) = (m : Int) by omega)
            have hz12 : w12.heap.size ≤ W.heap.size := by have := hblh.out.size; omega
            clear hpm
            gi_wp2_with fail
            refine ⟨trivial, (CallsIn.inRound l (callsIn_wide.2 (through_any W Bs u2 xs ((n6 : Int) + 9) bS.out.cell sU.out (by omega)))).mono ?_⟩
            rintro _ V1 ⟨u14, rfl, r14, y1⟩
            obtain ⟨a14, n14, c14, rfl, _⟩ := r14.sl.shape
            have s14 : Hid (Sl U6 V1 (.slice a14 n14 c14) xs) := by have h9 := r14.sl; rwa [List.take_of_length_le (by have := hn6.out; omega)] at h9
            have cW1 := y1.cell cW
            clear r14
            gi_wp2_with fail
            refine ⟨trivial, (CallsIn.inRound l (callsIn_wide.2 (same_yes _ _ _ xs s14.out (sV.out.ext y1)))).mono ?_⟩
            rintro _ V2 ⟨rfl, y2⟩
            have y02 := y1.trans y2
            have bK2 := bExt hbkh.out y02
            have cK2 := bK2.cell
            have fK2 := bK2.frozen
            clear cW1
            gi_wp2
            refine ⟨(KeepsOthers.ofExt y02).trans (KeepsOthers.setCell _ _ _), ?_, ?_, ?_⟩
            · have h9 : Below w12.heap.size W (V2.setCell ⟨w12.heap.size, 0, none⟩ (.int .i64 ((p : Int) + 1))) := Below.setCell (Below.mono y02 hz12) (Nat.le_refl _) _
              exact ⟨h9.size, fun q c t fz hq hc => (h9.block q hq).trans hc⟩
            · have h9 := bK2.set (.int .i64 ((p : Int) + 1))
              rw [List.length_append, hph.out]
              simpa using h9
            · exact hblh.out.trans (Below.setCell (Below.mono y02 hz12) (Nat.le_refl _) _)
          · have hpmb : ((p : Int) == (m : Int)) = false := by simpa using (show (p : Int) ≠ (m : Int) by omega)
            clear hpm
            gi_wp2
            refine ⟨KeepsOthers.setCell _ _ _, ?_, ?_, ?_⟩
            · have h9 : Below w12.heap.size W (W.setCell ⟨w12.heap.size, 0, none⟩ (.int .i64 ((p : Int) + 1))) := Below.setCell (Below.refl w12.heap.size W) (Nat.le_refl w12.heap.size) _
              exact ⟨h9.size, fun q c t fz hq hc => (h9.block q hq).trans hc⟩
            · have h9 := hbkh.out.set (.int .i64 ((p : Int) + 1))
              rw [List.length_append, hph.out]
              simpa using h9
            · exact hblh.out.trans (Below.setCell (Below.refl w12.heap.size W) (Nat.le_refl w12.heap.size) _)
        · have hne : ((G.toNat : Int) != (P.toNat : Int)) = true := by simpa using neI hgp
          have hgph : Hid (G ≠ P) := hgp
          clear hgp
          gi_wp2
          exact ⟨KeepsOthers.setCell _ _ _, pre, x, rfl, by rw [hph.out]; exact hplh.out, hGP.out _ hgph.out⟩
      case done =>
        rintro D ys W hD ⟨hf, hyl⟩ ⟨hbk, hbl⟩ hK
        rw [hyl] at hbk
        have hbkh : Hid (Boxed W w12.heap.size 3 (.int .i64 (xs.length : Nat))) := hbk
        have cW := (show Boxed W w6.heap.size 22 (.slice a6 n6 c6) from (hbl.block _ (by omega)).trans jW.out).cell
        have bR : Hid (Boxed W w.heap.size 4 (.bool false)) := (hbl.block _ (by omega)).trans jR.out
        have hbl2 : Hid (Below w12.heap.size w13 W) := hbl
        rw [← hn6.out] at hbk
        have cK := hbk.cell
        have hDl : D < W.heap.size := (Array.getElem?_eq_some_iff.1 hK).1
        clear hbk hbl hf hyl
        gi_wp2_with fail
        refine ⟨trivial, ?_⟩
        gi_at_call 20
        refine (callsIn_wide.2 (hwk W)).mono ?_
        rintro _ V ⟨rfl, y⟩
        have bRV := bExt bR.out y
        have cR := bRV.cell
        have fR := bRV.frozen
        have hKV : V.heap[D]? = some (.deferred (some [])) := (y.block D hDl).trans hK
        gi_wp2
        have hK2 : (V.setCell ⟨w.heap.size, 0, none⟩ (.bool true)).heap[D]? = some (.deferred (some [])) := by
          rw [Below.heap_setCell _ _ _ _ (by simp; omega)]; exact hKV
        refine ⟨by simp, .inl ⟨_, _, rfl, run_takeDeferred hK2, ?_⟩⟩
        refine ⟨_, results_box rfl _ _ w.heap.size (.bool true) _ rfl ?_ rfl rfl, rfl, ?_⟩
        · exact (Boxed.grownK (bRV.set (.bool true)) (grownBy_putObj' _ D _) (fun r e => by cases e; exact ⟨_, hK2, rfl⟩)).cell
        · have h1 : Below w.heap.size w W := Below.trans x013 (Below.mono hbl2.out (by omega))
          have h2 : Below w.heap.size w (V.setCell ⟨w.heap.size, 0, none⟩ (.bool true)) := Below.setCell (h1.trans (Below.mono y (by omega))) (Nat.le_refl _) _
          exact h2.trans (belowK_b (w := w13) (by omega) _ D _ _ hD hK2 rfl rfl)
      case stop =>
        rintro D c pre' W hD hf ⟨pre, x, rfl, hlt, hne⟩ hK
        have hxv : x.val = pre.length := by have := hf pre.length (by simp); simpa using this
        exact absurd (by simp only [hxv]) hne
end Go.Proofs.Ytfcpnglemiiphaa
