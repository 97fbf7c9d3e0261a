/-
  A filter that comes in, as a tree.
-/
import Derived.Test.YtbhlfhedfgmloaaGreatDoorQD
import Derived.Test.YtbhlfhedfgmloaaGreatDoorQW
import Derived.SizedLaws
import Derived.Test.YtbhlfhedfgmloaaGreatDoorCards
import Derived.Test.YtbhlfhedfgmloaaGreatDoorTie
namespace Go.Proofs.YtbhlfhedfgmloaaGreatDoor
open Go.ChangeShapes Go.WideShapes Go.ChangeAt Go.RowKit Go.Shelf

set_option maxRecDepth 100000
theorem cellsF : Tryz.prog.cellsOf 27 = 9 := by kernel_rfl
theorem cellsStr : Tryz.prog.cellsOf 9 = 1 := by kernel_rfl
theorem cellsI8 : Tryz.prog.cellsOf 23 = 1 := by kernel_rfl
theorem cellsB : Tryz.prog.cellsOf 4 = 1 := by kernel_rfl
theorem cellsFs : Tryz.prog.cellsOf 24 = 1 := by kernel_rfl
theorem cellsSs : Tryz.prog.cellsOf 25 = 1 := by kernel_rfl
theorem nineL {α : Type} {l : List α} (h : l.length = 9) : ∃ a b c d e f g i j, l = [a, b, c, d, e, f, g, i, j] := by
  match l, h with
  | [a, b, c, d, e, f, g, i, j], _ => exact ⟨a, b, c, d, e, f, g, i, j, rfl⟩
theorem weights_all_mem {H : Type} {P : Program} {e : TypeId} {d : DataW H} {n : Nat} : ∀ {ds : List (DataW H)}, d ∈ ds → n ∈ d.weights P e → n ∈ DataW.weightsAll P e ds
  | [], h, _ => by simp at h
  | d0 :: ds, h, hn => by
    simp only [DataW.weightsAll, List.mem_append]
    rcases List.mem_cons.1 h with rfl | h1
    · exact .inl hn
    · exact .inr (weights_all_mem h1 hn)
/-- nothing in it is greater than may be -/
def Bnd {H : Type} (d : DataW H) (t : TypeId) : Prop := ∀ n ∈ d.weights Tryz.prog t, n ≤ reachBytes
theorem agg_weights {H : Type} (ds : List (DataW H)) : (DataW.agg ds).weights Tryz.prog 27 = DataW.weightsEach Tryz.prog [23, 24, 9, 9, 9, 25, 9, 9, 4] ds := by
  simp [DataW.weights, Tryz.underlying27]
theorem bnd_part {H : Type} {ds : List (DataW H)} (h : Bnd (.agg ds) 27) {j : Nat} {t : TypeId} {d : DataW H} (ht : [23, 24, 9, 9, 9, 25, 9, 9, 4][j]? = some t) (hd : ds[j]? = some d) : Bnd d t := fun n hn => h n (by rw [agg_weights]; exact DataW.weights_mem_each ht hd n hn)
theorem bnd_str {H : Type} {s : ByteArray} (h : Bnd (H := H) (.lit (.string s.data.toList)) 9) : s.size ≤ 281474976710656 := by
  have := h s.data.toList.length (by simp [DataW.weights])
  have e : s.data.toList.length = s.size := Array.length_toList
  unfold reachBytes at this
  omega
theorem open_texts {H : Type} {enc : TypeId × Value → H} {W : World} {sp : Nat → Bool} {n : Nat} {u : Value} {x : DataW H × List MemPlace} (h : DataW.trod enc Tryz.prog W 0 sp true n 25 [u] = some x) (hb : Bnd x.1 25) : ∃ ms, SSl W u ms ∧ sized ms := by
  rcases DataW.trod_slice Tryz.underlying25 h with ⟨h0, _⟩ | ⟨a, len, cap, elems, rest, m, rfl, h0, hx, _, hl, hm, hlen, hel, _, _⟩
  · simp only [List.cons.injEq, and_true] at h0
    subst h0
    exact ⟨[], ssl_nil rfl (Nat.zero_le _), fun s hs => by cases hs⟩
  · simp only [List.cons.injEq, and_true] at h0
    subst h0
    rw [cellsStr] at hel
    have hstep : ∀ i, i < len → ∃ s : ByteArray, W.cell? (a.add (i * 1)) = some (.string s) ∧ s.size ≤ 281474976710656 := by
      intro i hi
      have h1 := hel i hi
      rw [List.getElem?_eq_getElem (by omega)] at h1
      obtain ⟨cs, hcs, hcs2⟩ := Option.bind_eq_some_iff.1 h1
      obtain ⟨s, rfl, ex, _⟩ := DataW.trod_string Tryz.underlying9 hcs2
      refine ⟨s, ?_, ?_⟩
      · have hc := (World.cells?_some hcs).2.2 0 (by omega)
        have hadd : (a.add (i * 1)).add 0 = a.add (i * 1) := by
          unfold Addr.add
          split <;> split <;> simp_all
        rw [hadd] at hc
        rw [hc]
        rfl
      · refine bnd_str (H := H) (fun n hn => hb n ?_)
        rw [hx]
        simp only [DataW.weights, Tryz.underlying25]
        refine List.mem_cons_of_mem _ (List.mem_append_left _ ?_)
        refine weights_all_mem (d := .lit (.string s.data.toList)) ?_ hn
        rw [List.mem_map]
        exact ⟨elems[i], List.getElem_mem _, by rw [ex]⟩
    by_cases hl0 : len = 0
    · subst hl0
      exact ⟨[], ssl_nil rfl hm, fun s hs => by cases hs⟩
    have hspot : a.spot = none := by
      obtain ⟨s, hc, _⟩ := hstep 0 (by omega)
      simpa [Addr.add] using World.cell?_spot hc
    obtain ⟨ab, ao, spot⟩ := a
    simp only at hspot
    subst hspot
    obtain ⟨f, hf⟩ : ∃ f : Fin len → ByteArray, ∀ i : Fin len, W.cell? ((⟨ab, ao, none⟩ : Addr).add (i.val * 1)) = some (.string (f i)) ∧ (f i).size ≤ 281474976710656 :=
      ⟨fun i => Classical.choose (hstep i.val i.isLt), fun i => Classical.choose_spec (hstep i.val i.isLt)⟩
    refine ⟨List.ofFn f, ⟨some ⟨ab, ao, none⟩, cap, by simp, by simpa using hl, hm, fun j hj => ?_⟩, fun s hs => ?_⟩
    · have hj' : j < len := by simpa using hj
      refine ⟨ab, ao, rfl, ?_⟩
      have := (hf ⟨j, hj'⟩).1
      rw [Addr.add_lit, Nat.mul_one] at this
      simpa using this
    · rw [List.mem_ofFn] at hs
      obtain ⟨i, rfl⟩ := hs
      exact (hf i).2
theorem filter_cells {H : Type} {enc : TypeId × Value → H} {W : World} {sp : Nat → Bool} {n : Nat} {cs : List Value} {x : DataW H × List MemPlace} (h : DataW.trod enc Tryz.prog W 0 sp true n 27 cs = some x) (hb : Bnd x.1 27) :
    ∃ (kd : Int) (u um : Value) (d v s e r : ByteArray) (b : Bool) (m : Nat) (yk : DataW H × List MemPlace) (ms : List ByteArray), cs = [.int .i8 kd, u, .string d, .string v, .string s, um, .string e, .string r, .bool b] ∧ (-128 ≤ kd ∧ kd ≤ 127) ∧ n = m + 1 ∧ DataW.trod enc Tryz.prog W 0 sp true m 24 [u] = some yk ∧ Bnd yk.1 24 ∧ SSl W um ms ∧ sized ms ∧ d.size ≤ 281474976710656 ∧ v.size ≤ 281474976710656 ∧ s.size ≤ 281474976710656 ∧ e.size ≤ 281474976710656 ∧ r.size ≤ 281474976710656 := by
  obtain ⟨xs, k, rfl, hx, hl, hxl, hall⟩ := DataW.trod_struct Tryz.underlying27 h
  rw [cellsF] at hl
  obtain ⟨c0, c1, c2, c3, c4, c5, c6, c7, c8, rfl⟩ := nineL hl
  obtain ⟨x0, x1, x2, x3, x4, x5, x6, x7, x8, rfl⟩ := nineL (show xs.length = 9 from hxl)
  have f0 := hall 0 _ rfl
  have f1 := hall 1 _ rfl
  have f2 := hall 2 _ rfl
  have f3 := hall 3 _ rfl
  have f4 := hall 4 _ rfl
  have f5 := hall 5 _ rfl
  have f6 := hall 6 _ rfl
  have f7 := hall 7 _ rfl
  have f8 := hall 8 _ rfl
  change DataW.trod _ _ _ _ _ _ _ 23 (([c0, c1, c2, c3, c4, c5, c6, c7, c8].drop 0).take (Tryz.prog.cellsOf 23)) = some x0 at f0
  change DataW.trod _ _ _ _ _ _ _ 24 (([c0, c1, c2, c3, c4, c5, c6, c7, c8].drop 1).take (Tryz.prog.cellsOf 24)) = some x1 at f1
  change DataW.trod _ _ _ _ _ _ _ 9 (([c0, c1, c2, c3, c4, c5, c6, c7, c8].drop 2).take (Tryz.prog.cellsOf 9)) = some x2 at f2
  change DataW.trod _ _ _ _ _ _ _ 9 (([c0, c1, c2, c3, c4, c5, c6, c7, c8].drop 3).take (Tryz.prog.cellsOf 9)) = some x3 at f3
  change DataW.trod _ _ _ _ _ _ _ 9 (([c0, c1, c2, c3, c4, c5, c6, c7, c8].drop 4).take (Tryz.prog.cellsOf 9)) = some x4 at f4
  change DataW.trod _ _ _ _ _ _ _ 25 (([c0, c1, c2, c3, c4, c5, c6, c7, c8].drop 5).take (Tryz.prog.cellsOf 25)) = some x5 at f5
  change DataW.trod _ _ _ _ _ _ _ 9 (([c0, c1, c2, c3, c4, c5, c6, c7, c8].drop 6).take (Tryz.prog.cellsOf 9)) = some x6 at f6
  change DataW.trod _ _ _ _ _ _ _ 9 (([c0, c1, c2, c3, c4, c5, c6, c7, c8].drop 7).take (Tryz.prog.cellsOf 9)) = some x7 at f7
  change DataW.trod _ _ _ _ _ _ _ 4 (([c0, c1, c2, c3, c4, c5, c6, c7, c8].drop 8).take (Tryz.prog.cellsOf 4)) = some x8 at f8
  rw [cellsI8] at f0
  rw [cellsFs] at f1
  rw [cellsStr] at f2 f3 f4 f6 f7
  rw [cellsSs] at f5
  rw [cellsB] at f8
  obtain ⟨z0, h0, _, w0⟩ := DataW.trod_int Tryz.underlying23 f0
  obtain ⟨z2, h2, y2, _⟩ := DataW.trod_string Tryz.underlying9 f2
  obtain ⟨z3, h3, y3, _⟩ := DataW.trod_string Tryz.underlying9 f3
  obtain ⟨z4, h4, y4, _⟩ := DataW.trod_string Tryz.underlying9 f4
  obtain ⟨z6, h6, y6, _⟩ := DataW.trod_string Tryz.underlying9 f6
  obtain ⟨z7, h7, y7, _⟩ := DataW.trod_string Tryz.underlying9 f7
  obtain ⟨z8, h8, _⟩ := DataW.trod_bool Tryz.underlying4 f8
  simp only [List.drop_succ_cons, List.drop_zero, List.take_succ_cons, List.take_zero, List.cons.injEq, and_true] at h0 h2 h3 h4 h6 h7 h8 f1 f5
  rw [hx] at hb
  have hb' : Bnd (.agg [x0.1, x1.1, x2.1, x3.1, x4.1, x5.1, x6.1, x7.1, x8.1]) 27 := hb
  have b2 := bnd_part hb' (j := 2) rfl rfl
  have b3 := bnd_part hb' (j := 3) rfl rfl
  have b4 := bnd_part hb' (j := 4) rfl rfl
  have b6 := bnd_part hb' (j := 6) rfl rfl
  have b7 := bnd_part hb' (j := 7) rfl rfl
  rw [y2] at b2
  rw [y3] at b3
  rw [y4] at b4
  rw [y6] at b6
  rw [y7] at b7
  obtain ⟨ms, hm1, hm2⟩ := open_texts f5 (bnd_part hb' (j := 5) rfl rfl)
  subst h0 h2 h3 h4 h6 h7 h8
  simp only [Lit.wf, Bool.and_eq_true, decide_eq_true_eq] at w0
  have a1 : IntKind.i8.min = -128 := by decide
  have a2 : IntKind.i8.max = 127 := by decide
  rw [a1, a2] at w0
  exact ⟨z0, c1, c5, z2, z3, z4, z6, z7, z8, k, x1, ms, rfl, w0, rfl, f1, bnd_part hb' (j := 1) rfl rfl, hm1, hm2, bnd_str b2, bnd_str b3, bnd_str b4, bnd_str b6, bnd_str b7⟩
/-- nine values that say what stands in a part -/
theorem part_is {W : World} {kd : Int} {ka : Option Addr} {kn kc : Nat} {um : Value} {d v s e r : ByteArray} {b : Bool} {ms : List ByteArray} (hk : -128 ≤ kd ∧ kd ≤ 127) (hm1 : SSl W um ms) (hm2 : sized ms) (z2 : d.size ≤ 281474976710656) (z3 : v.size ≤ 281474976710656) (z4 : s.size ≤ 281474976710656) (z6 : e.size ≤ 281474976710656) (z7 : r.size ≤ 281474976710656) :
    ∃ ma mn mc, um = .slice ma mn mc ∧ FOwn W ⟨kd, ka, kn, kc, d, v, s, ma, mn, mc, e, r, b⟩ ⟨kd, d, v, s, ms, e, r, b⟩ := by
  obtain ⟨ma, mc, rfl, h1, h2, h3⟩ := hm1
  exact ⟨ma, ms.length, mc, rfl, rfl, rfl, rfl, rfl, rfl, rfl, rfl, ⟨z2, z3, z4, z6, z7⟩, ⟨ma, mc, rfl, h1, h2, h3⟩, hm2, hk⟩
theorem open_forest {H : Type} {enc : TypeId × Value → H} {W : World} {sp : Nat → Bool} : ∀ (M n : Nat), n < M → ∀ (u : Value) (x : DataW H × List MemPlace), DataW.trod enc Tryz.prog W 0 sp true n 24 [u] = some x → Bnd x.1 24 →
    ∃ (kids : FT) (ka : Option Addr) (kn kc : Nat), u = .slice ka kn kc ∧ kn = kids.len ∧ kn ≤ kc ∧ kc ≤ maxLen ∧ (kids.len = 0 ∨ ∃ g o, ka = some ⟨g, o, none⟩ ∧ FtCells W kids g o) := by
  intro M
  induction M with
  | zero => exact fun _ h => absurd h (Nat.not_lt_zero _)
  | succ M ih =>
    intro n hn u x h hb
    rcases DataW.trod_slice Tryz.underlying24 h with ⟨h0, _⟩ | ⟨a, len, cap, elems, rest, m, rfl, h0, hx, _, hl, hm, hlen, hel, _, _⟩
    · simp only [List.cons.injEq, and_true] at h0
      subst h0
      exact ⟨.nil, none, 0, 0, rfl, rfl, Nat.le_refl _, Nat.zero_le _, .inl rfl⟩
    · simp only [List.cons.injEq, and_true] at h0
      subst h0
      rw [cellsF] at hel
      have hstep : ∀ i, i < len → ∃ (f : F9) (o : OwnF) (k : FT), FOwn W f o ∧ FKids W f k ∧ ∀ j (hj : j < f.arr.size), W.cell? (a.add (i * 9 + j)) = some f.arr[j] := by
        intro i hi
        have h1 := hel i hi
        rw [List.getElem?_eq_getElem (by omega)] at h1
        obtain ⟨cs, hcs, hcs2⟩ := Option.bind_eq_some_iff.1 h1
        have hbi : Bnd elems[i].1 27 := fun n hn => hb n (by
          rw [hx]
          simp only [DataW.weights, Tryz.underlying24]
          refine List.mem_cons_of_mem _ (List.mem_append_left _ ?_)
          refine weights_all_mem (d := elems[i].1) ?_ hn
          rw [List.mem_map]
          exact ⟨elems[i], List.getElem_mem _, rfl⟩)
        obtain ⟨kd, u, um, d, v, s, e, r, b, m', yk, ms, rfl, hk, rfl, htr, hbk, hm1, hm2, z2, z3, z4, z6, z7⟩ := filter_cells hcs2 hbi
        obtain ⟨k, ka, kn, kc, rfl, q1, q2, q3, q4⟩ := ih m' (by omega) u yk htr hbk
        obtain ⟨ma, mn, mc, rfl, hO⟩ := part_is (ka := ka) (kn := kn) (kc := kc) (b := b) hk hm1 hm2 z2 z3 z4 z6 z7
        refine ⟨_, _, k, hO, ⟨q1, q2, q3, q4⟩, fun j hj => ?_⟩
        have hj' : j < 9 := hj
        have hc := (World.cells?_some hcs).2.2 j hj'
        have hadd : (a.add (i * 9)).add j = a.add (i * 9 + j) := by
          unfold Addr.add
          split <;> split <;> split <;> simp_all <;> omega
        rw [hadd] at hc
        rw [hc]
        exact List.getElem?_eq_getElem hj
      by_cases h0 : len = 0
      · subst h0
        exact ⟨.nil, some a, 0, cap, rfl, rfl, hl, hm, .inl rfl⟩
      have hspot : a.spot = none := by
        obtain ⟨f, o, k, _, _, hc⟩ := hstep 0 (by omega)
        simpa [Addr.add] using World.cell?_spot (hc 0 (by simp [F9.arr]))
      obtain ⟨ab, ao, spot⟩ := a
      simp only at hspot
      subst hspot
      have hall : ∀ (m j : Nat), j + m = len → ∃ y : FT, y.len = m ∧ FtCells W y ab (ao + j * 9) := by
        intro m
        induction m with
        | zero => exact fun j _ => ⟨.nil, rfl, trivial⟩
        | succ m ihm =>
          intro j hj
          obtain ⟨r, hr1, hr2⟩ := ihm (j + 1) (by omega)
          obtain ⟨f, o, k, hO, ⟨q1, q2, q3, q4⟩, hc⟩ := hstep j (by omega)
          simp only [Addr.add_lit] at hc
          refine ⟨.cons o k r, by simp [FT.len, hr1], ⟨f, hO, fun j' hj' => ?_, q1, q2, q3, q4⟩, ?_⟩
          · have := hc j' hj'
            rw [← Nat.add_assoc] at this
            exact this
          · rw [show ao + j * 9 + 9 = ao + (j + 1) * 9 by omega]
            exact hr2
      obtain ⟨y, hy1, hy2⟩ := hall len 0 (by omega)
      exact ⟨y, _, len, cap, rfl, hy1.symm, hl, hm, .inr ⟨ab, ao, rfl, by simpa using hy2⟩⟩
/-- a filter that comes in -/
theorem open_filter {H : Type} {enc : TypeId × Value → H} {W : World} {base : Nat} {v : Value} {d : DataW H} {p : List MemPlace} (hval : Value.okWide Tryz.prog W .any base 27 v) (h : DataW.Trod enc Tryz.prog W 0 (fun _ => true) true 27 v d p) (hb : Bnd d 27) :
    ∃ (f : F9) (a : OwnF) (kids : FT), v = .agg f.arr ∧ FOwn W f a ∧ FKids W f kids := by
  obtain ⟨cs, rfl, hcs⟩ := okWide_struct Tryz.underlying27 hval
  obtain ⟨fuel, hf⟩ := h
  obtain ⟨kd, u, um, d0, v, s, e, r, b, m', yk, ms, ec, hk, rfl, htr, hbk, hm1, hm2, z2, z3, z4, z6, z7⟩ := filter_cells hf hb
  obtain ⟨k, ka, kn, kc, rfl, q1, q2, q3, q4⟩ := open_forest (m' + 1) m' (Nat.lt_succ_self _) u yk htr hbk
  obtain ⟨ma, mn, mc, rfl, hO⟩ := part_is (ka := ka) (kn := kn) (kc := kc) (b := b) hk hm1 hm2 z2 z3 z4 z6 z7
  simp only [Value.cells] at ec
  refine ⟨⟨kd, ka, kn, kc, d0, v, s, ma, mn, mc, e, r, b⟩, ⟨kd, d0, v, s, ms, e, r, b⟩, k, ?_, hO, q1, q2, q3, q4⟩
  have : cs = #[.int .i8 kd, .slice ka kn kc, .string d0, .string v, .string s, .slice ma mn mc, .string e, .string r, .bool b] := by rw [← Array.toList_inj]; exact ec
  rw [this]
  rfl
end Go.Proofs.YtbhlfhedfgmloaaGreatDoor

/-
  The law's own count of a filter: it ends with an answer, and changes its counter alone (written by gen/mkcn.py).
-/
namespace Go.Proofs.YtbhlfhedfgmloaaGreatDoor
open Go.RowKit Go.Shelf

def IBox (w : World) (N : Nat) (z : Int) : Prop := w.heap[N]? = some (.cells #[.int .i64 z] 3 (0, 0))
theorem IBox.cell {w : World} {N : Nat} {z : Int} (h : IBox w N z) : w.cell? ⟨N, 0, none⟩ = some (.int .i64 z) ∧ w.frozen? ⟨N, 0, none⟩ = false := ⟨cell_of_row _ _ 0 _ _ _ h, by simp [World.frozen?, show w.heap[N]? = _ from h]⟩
theorem IBox.set {w : World} {N : Nat} {z : Int} (h : IBox w N z) (m : Int) : IBox (w.setCell ⟨N, 0, none⟩ (.int .i64 m)) N m := heap_setCell_at w N 0 _ _ _ _ h
theorem IBox.ext {w w' : World} {N : Nat} {z : Int} (h : IBox w N z) (x : Ext w w') : IBox w' N z := (x.block N (Array.getElem?_eq_some_iff.1 h).1).trans h
theorem IBox.lt {w : World} {N : Nat} {z : Int} (h : IBox w N z) : N < w.heap.size := (Array.getElem?_eq_some_iff.1 h).1
abbrev NoS : Nat → Prop := fun _ => False
/-- how counts ends -/
def CtsPost (w : World) (N : Nat) (e : Ending) (w' : World) : Prop := (∃ b, e = .returned (.bool b)) ∧ (∃ z', IBox w' N z') ∧ Only (fun g => NoS g ∨ g = N) w w'
/-- counts, of one filter -/
def CtsSpec (a : OwnF) (kids : FT) : Prop := ∀ (w : World) (N : Nat) (z ab : Int) (f : F9), IBox w N z → FStay w NoS N f a kids → 0 ≤ ab → ab ≤ 65537 →
  Calls Tryz.prog 40 #[.agg f.arr, .pointer (some ⟨N, 0, none⟩), .int .i64 ab] w (CtsPost w N)
def CtsAll : FT → Prop
  | .nil => True
  | .cons a k r => CtsSpec a k ∧ CtsAll r
theorem only_set {w W : World} {N : Nat} (o : Only (fun g => NoS g ∨ g = N) w W) (v : Value) : Only (fun g => NoS g ∨ g = N) w (W.setCell ⟨N, 0, none⟩ v) := o.then ((setOnly W N 0 v).mono fun _ _ h => .inr h)

set_option maxRecDepth 100000 in
set_option maxHeartbeats 8000000 in
theorem cts_step (a : OwnF) (kids : FT) (hall : CtsAll kids) : CtsSpec a kids := by
  intro w N z ab f hN hf hab0 hab1
  have hmix : Tryz.prog.follows Departure.mixedOrders = true := by kernel_rfl
  have hNlt := hN.lt
  obtain ⟨hkn, hkc, hcm, hk⟩ := hf.kids
  have hm := hf.mids
  obtain ⟨kind, ka, kn, kc, desc, value, start, ma, mn, mc, fin, rule, dn⟩ := f
  simp only at hkn hkc hcm hk
  simp only [F9.arr]
  have hkm : kn ≤ 9223372036854775807 := by unfold maxLen at hcm; omega
  have hknh : Hid (kn = kids.len) := hkn
  have hkh : Hid (kids.len = 0 ∨ ∃ g o, ka = some ⟨g, o, none⟩ ∧ KStay w NoS N kids g o) := hk
  have hallh : Hid (CtsAll kids) := hall
  have hmh : Hid (MStay w NoS N ⟨kind, ka, kn, kc, desc, value, start, ma, mn, mc, fin, rule, dn⟩ a.ms) := hm
  have f0 : FlT (w.alloc (.cells #[.int .i8 kind, .slice ka kn kc, .string desc, .string value, .string start, .slice ma mn mc, .string fin, .string rule, .bool dn] 27)) w.heap.size ⟨kind, ka, kn, kc, desc, value, start, ma, mn, mc, fin, rule, dn⟩ := heap_alloc_new _ _
  have x0 := (Ext.refl w).alloc (.cells #[.int .i8 kind, .slice ka kn kc, .string desc, .string value, .string start, .slice ma mn mc, .string fin, .string rule, .bool dn] 27)
  have N0 := hN.ext x0
  clear hkn hk hall hkc hcm hf hm hN
  go_enter Tryz.func40, Tryz.ntmps40
  go_upto_region 1 with fail
  generalize w.alloc _ = w1 at f0 x0 N0 ⊢
  obtain ⟨c0, c1, c2, c3, c4, c5, c6, c7, c8, cz⟩ := f0.cells
  simp only at c0 c1 c2 c3 c4 c5 c6 c7 c8
  obtain ⟨n0, nz⟩ := N0.cell
  refine wp_region_last (fun w' => w'.cell? ⟨N, 0, none⟩ = some (.int .i64 z) ∧ w'.cell? ⟨w.heap.size, 2, none⟩ = some (.string desc) ∧ w'.cell? ⟨w.heap.size, 3, none⟩ = some (.string value) ∧ w'.cell? ⟨w.heap.size, 4, none⟩ = some (.string start) ∧ w'.cell? ⟨w.heap.size, 6, none⟩ = some (.string fin) ∧ w'.cell? ⟨w.heap.size, 7, none⟩ = some (.string rule)) 25 hmix ?_
  change wpAnyT _ _ _ _ _ _ 26 _ _ w1.drew
  have hSw : w1.drew.cell? ⟨N, 0, none⟩ = some (.int .i64 z) ∧ w1.drew.cell? ⟨w.heap.size, 2, none⟩ = some (.string desc) ∧ w1.drew.cell? ⟨w.heap.size, 3, none⟩ = some (.string value) ∧ w1.drew.cell? ⟨w.heap.size, 4, none⟩ = some (.string start) ∧ w1.drew.cell? ⟨w.heap.size, 6, none⟩ = some (.string fin) ∧ w1.drew.cell? ⟨w.heap.size, 7, none⟩ = some (.string rule) := ⟨n0, c2, c3, c4, c6, c7⟩
  have hfz : w1.drew.frozen? ⟨N, 0, none⟩ = false := nz
  have N1 : IBox w1.drew N z := N0
  have x1 := x0.drew
  have f1 := f0.drew
  clear c0 c1 c2 c3 c4 c5 c6 c7 c8 n0 nz f0 x0 N0
  generalize w1.drew = w2 at hSw hfz N1 x1 f1 ⊢
  refine wpAnyT_take (i := 0) (v := ?_) rfl (by kernel_rfl) (by kernel_rfl) (by kernel_rfl) (by kernel_rfl) (fun _ _ _ h => h) (Or.inl ⟨by rfl, ?hy0⟩) hSw ?_
  case hy0 => (intro w' hSw'; obtain ⟨k0, k1, k2, k3, k4, k5⟩ := hSw'; go_simp; try with_reducible rfl)
  dsimp only [Act.put, List.getElem_toArray, List.getElem_cons_zero, List.getElem_cons_succ]
  simp only [List.setIfInBounds_toArray, List.set_cons_zero, List.set_cons_succ]
  refine wpAnyT_take (i := 1) (v := ?_) rfl (by kernel_rfl) (by kernel_rfl) (by kernel_rfl) (by kernel_rfl) (fun _ _ _ h => h) (Or.inl ⟨by rfl, ?hy1⟩) hSw ?_
  case hy1 => (intro w' hSw'; obtain ⟨k0, k1, k2, k3, k4, k5⟩ := hSw'; go_simp; try with_reducible rfl)
  dsimp only [Act.put, List.getElem_toArray, List.getElem_cons_zero, List.getElem_cons_succ]
  simp only [List.setIfInBounds_toArray, List.set_cons_zero, List.set_cons_succ]
  refine wpAnyT_take (i := 2) (v := ?_) rfl (by kernel_rfl) (by kernel_rfl) (by kernel_rfl) (by kernel_rfl) (fun _ _ _ h => h) (Or.inl ⟨by rfl, ?hy2⟩) hSw ?_
  case hy2 => (intro w' hSw'; obtain ⟨k0, k1, k2, k3, k4, k5⟩ := hSw'; go_simp; try with_reducible rfl)
  dsimp only [Act.put, List.getElem_toArray, List.getElem_cons_zero, List.getElem_cons_succ]
  simp only [List.setIfInBounds_toArray, List.set_cons_zero, List.set_cons_succ]
  refine wpAnyT_take (i := 3) (v := ?_) rfl (by kernel_rfl) (by kernel_rfl) (by kernel_rfl) (by kernel_rfl) (fun _ _ _ h => h) (Or.inl ⟨by rfl, ?hy3⟩) hSw ?_
  case hy3 => (intro w' hSw'; obtain ⟨k0, k1, k2, k3, k4, k5⟩ := hSw'; go_simp; try with_reducible rfl)
  dsimp only [Act.put, List.getElem_toArray, List.getElem_cons_zero, List.getElem_cons_succ]
  simp only [List.setIfInBounds_toArray, List.set_cons_zero, List.set_cons_succ]
  refine wpAnyT_take (i := 4) (v := ?_) rfl (by kernel_rfl) (by kernel_rfl) (by kernel_rfl) (by kernel_rfl) (fun _ _ _ h => h) (Or.inl ⟨by rfl, ?hy4⟩) hSw ?_
  case hy4 => (intro w' hSw'; obtain ⟨k0, k1, k2, k3, k4, k5⟩ := hSw'; go_simp; try with_reducible rfl)
  dsimp only [Act.put, List.getElem_toArray, List.getElem_cons_zero, List.getElem_cons_succ]
  simp only [List.setIfInBounds_toArray, List.set_cons_zero, List.set_cons_succ]
  refine wpAnyT_take (i := 5) (v := ?_) rfl (by kernel_rfl) (by kernel_rfl) (by kernel_rfl) (by kernel_rfl) (fun _ _ _ h => h) (Or.inl ⟨by rfl, ?hy5⟩) hSw ?_
  case hy5 => (intro w' hSw'; obtain ⟨k0, k1, k2, k3, k4, k5⟩ := hSw'; go_simp; try with_reducible rfl)
  dsimp only [Act.put, List.getElem_toArray, List.getElem_cons_zero, List.getElem_cons_succ]
  simp only [List.setIfInBounds_toArray, List.set_cons_zero, List.set_cons_succ]
  refine wpAnyT_take (i := 6) (v := ?_) rfl (by kernel_rfl) (by kernel_rfl) (by kernel_rfl) (by kernel_rfl) (fun _ _ _ h => h) (Or.inl ⟨by rfl, ?hy6⟩) hSw ?_
  case hy6 => (intro w' hSw'; obtain ⟨k0, k1, k2, k3, k4, k5⟩ := hSw'; go_simp; try with_reducible rfl)
  dsimp only [Act.put, List.getElem_toArray, List.getElem_cons_zero, List.getElem_cons_succ]
  simp only [List.setIfInBounds_toArray, List.set_cons_zero, List.set_cons_succ]
  refine wpAnyT_take (i := 7) (v := ?_) rfl (by kernel_rfl) (by kernel_rfl) (by kernel_rfl) (by kernel_rfl) (fun _ _ _ h => h) (Or.inl ⟨by rfl, ?hy7⟩) hSw ?_
  case hy7 => (intro w' hSw'; obtain ⟨k0, k1, k2, k3, k4, k5⟩ := hSw'; go_simp; try with_reducible rfl)
  dsimp only [Act.put, List.getElem_toArray, List.getElem_cons_zero, List.getElem_cons_succ]
  simp only [List.setIfInBounds_toArray, List.set_cons_zero, List.set_cons_succ]
  refine wpAnyT_take (i := 8) (v := ?_) rfl (by kernel_rfl) (by kernel_rfl) (by kernel_rfl) (by kernel_rfl) (fun _ _ _ h => h) (Or.inl ⟨by rfl, ?hy8⟩) hSw ?_
  case hy8 => (intro w' hSw'; obtain ⟨k0, k1, k2, k3, k4, k5⟩ := hSw'; go_simp; try with_reducible rfl)
  dsimp only [Act.put, List.getElem_toArray, List.getElem_cons_zero, List.getElem_cons_succ]
  simp only [List.setIfInBounds_toArray, List.set_cons_zero, List.set_cons_succ]
  refine wpAnyT_take (i := 9) (v := ?_) rfl (by kernel_rfl) (by kernel_rfl) (by kernel_rfl) (by kernel_rfl) (fun _ _ _ h => h) (Or.inl ⟨by rfl, ?hy9⟩) hSw ?_
  case hy9 => (intro w' hSw'; obtain ⟨k0, k1, k2, k3, k4, k5⟩ := hSw'; go_simp; try with_reducible rfl)
  dsimp only [Act.put, List.getElem_toArray, List.getElem_cons_zero, List.getElem_cons_succ]
  simp only [List.setIfInBounds_toArray, List.set_cons_zero, List.set_cons_succ]
  refine wpAnyT_take (i := 10) (v := ?_) rfl (by kernel_rfl) (by kernel_rfl) (by kernel_rfl) (by kernel_rfl) (fun _ _ _ h => h) (Or.inl ⟨by rfl, ?hy10⟩) hSw ?_
  case hy10 => (intro w' hSw'; obtain ⟨k0, k1, k2, k3, k4, k5⟩ := hSw'; go_simp; try with_reducible rfl)
  dsimp only [Act.put, List.getElem_toArray, List.getElem_cons_zero, List.getElem_cons_succ]
  simp only [List.setIfInBounds_toArray, List.set_cons_zero, List.set_cons_succ]
  refine wpAnyT_take (i := 11) (v := ?_) rfl (by kernel_rfl) (by kernel_rfl) (by kernel_rfl) (by kernel_rfl) (fun _ _ _ h => h) (Or.inl ⟨by rfl, ?hy11⟩) hSw ?_
  case hy11 => (intro w' hSw'; obtain ⟨k0, k1, k2, k3, k4, k5⟩ := hSw'; go_simp; try with_reducible rfl)
  dsimp only [Act.put, List.getElem_toArray, List.getElem_cons_zero, List.getElem_cons_succ]
  simp only [List.setIfInBounds_toArray, List.set_cons_zero, List.set_cons_succ]
  refine wpAnyT_take (i := 12) (v := ?_) rfl (by kernel_rfl) (by kernel_rfl) (by kernel_rfl) (by kernel_rfl) (fun _ _ _ h => h) (Or.inl ⟨by rfl, ?hy12⟩) hSw ?_
  case hy12 => (intro w' hSw'; obtain ⟨k0, k1, k2, k3, k4, k5⟩ := hSw'; go_simp; try with_reducible rfl)
  dsimp only [Act.put, List.getElem_toArray, List.getElem_cons_zero, List.getElem_cons_succ]
  simp only [List.setIfInBounds_toArray, List.set_cons_zero, List.set_cons_succ]
  refine wpAnyT_take (i := 13) (v := ?_) rfl (by kernel_rfl) (by kernel_rfl) (by kernel_rfl) (by kernel_rfl) (fun _ _ _ h => h) (Or.inl ⟨by rfl, ?hy13⟩) hSw ?_
  case hy13 => (intro w' hSw'; obtain ⟨k0, k1, k2, k3, k4, k5⟩ := hSw'; go_simp; try with_reducible rfl)
  dsimp only [Act.put, List.getElem_toArray, List.getElem_cons_zero, List.getElem_cons_succ]
  simp only [List.setIfInBounds_toArray, List.set_cons_zero, List.set_cons_succ]
  refine wpAnyT_take (i := 14) (v := ?_) rfl (by kernel_rfl) (by kernel_rfl) (by kernel_rfl) (by kernel_rfl) (fun _ _ _ h => h) (Or.inl ⟨by rfl, ?hy14⟩) hSw ?_
  case hy14 => (intro w' hSw'; obtain ⟨k0, k1, k2, k3, k4, k5⟩ := hSw'; go_simp; try with_reducible rfl)
  dsimp only [Act.put, List.getElem_toArray, List.getElem_cons_zero, List.getElem_cons_succ]
  simp only [List.setIfInBounds_toArray, List.set_cons_zero, List.set_cons_succ]
  refine wpAnyT_take (i := 15) (v := ?_) rfl (by kernel_rfl) (by kernel_rfl) (by kernel_rfl) (by kernel_rfl) (fun _ _ _ h => h) (Or.inl ⟨by rfl, ?hy15⟩) hSw ?_
  case hy15 => (intro w' hSw'; obtain ⟨k0, k1, k2, k3, k4, k5⟩ := hSw'; go_simp; try with_reducible rfl)
  dsimp only [Act.put, List.getElem_toArray, List.getElem_cons_zero, List.getElem_cons_succ]
  simp only [List.setIfInBounds_toArray, List.set_cons_zero, List.set_cons_succ]
  refine wpAnyT_take (i := 16) (v := ?_) rfl (by kernel_rfl) (by kernel_rfl) (by kernel_rfl) (by kernel_rfl) (fun _ _ _ h => h) (Or.inl ⟨by rfl, ?hy16⟩) hSw ?_
  case hy16 => (intro w' hSw'; obtain ⟨k0, k1, k2, k3, k4, k5⟩ := hSw'; go_simp; try with_reducible rfl)
  dsimp only [Act.put, List.getElem_toArray, List.getElem_cons_zero, List.getElem_cons_succ]
  simp only [List.setIfInBounds_toArray, List.set_cons_zero, List.set_cons_succ]
  refine wpAnyT_take (i := 17) (v := ?_) rfl (by kernel_rfl) (by kernel_rfl) (by kernel_rfl) (by kernel_rfl) (fun _ _ _ h => h) (Or.inl ⟨by rfl, ?hy17⟩) hSw ?_
  case hy17 => (intro w' hSw'; obtain ⟨k0, k1, k2, k3, k4, k5⟩ := hSw'; go_simp; try with_reducible rfl)
  dsimp only [Act.put, List.getElem_toArray, List.getElem_cons_zero, List.getElem_cons_succ]
  simp only [List.setIfInBounds_toArray, List.set_cons_zero, List.set_cons_succ]
  refine wpAnyT_take (i := 18) (v := ?_) rfl (by kernel_rfl) (by kernel_rfl) (by kernel_rfl) (by kernel_rfl) (fun _ _ _ h => h) (Or.inl ⟨by rfl, ?hy18⟩) hSw ?_
  case hy18 => (intro w' hSw'; obtain ⟨k0, k1, k2, k3, k4, k5⟩ := hSw'; go_simp; try with_reducible rfl)
  dsimp only [Act.put, List.getElem_toArray, List.getElem_cons_zero, List.getElem_cons_succ]
  simp only [List.setIfInBounds_toArray, List.set_cons_zero, List.set_cons_succ]
  refine wpAnyT_take (i := 19) (v := ?_) rfl (by kernel_rfl) (by kernel_rfl) (by kernel_rfl) (by kernel_rfl) (fun _ _ _ h => h) (Or.inl ⟨by rfl, ?hy19⟩) hSw ?_
  case hy19 => (intro w' hSw'; obtain ⟨k0, k1, k2, k3, k4, k5⟩ := hSw'; go_simp; try with_reducible rfl)
  dsimp only [Act.put, List.getElem_toArray, List.getElem_cons_zero, List.getElem_cons_succ]
  simp only [List.setIfInBounds_toArray, List.set_cons_zero, List.set_cons_succ]
  refine wpAnyT_take (i := 20) (v := ?_) rfl (by kernel_rfl) (by kernel_rfl) (by kernel_rfl) (by kernel_rfl) (fun _ _ _ h => h) (Or.inl ⟨by rfl, ?hy20⟩) hSw ?_
  case hy20 => (intro w' hSw'; obtain ⟨k0, k1, k2, k3, k4, k5⟩ := hSw'; go_simp; try with_reducible rfl)
  dsimp only [Act.put, List.getElem_toArray, List.getElem_cons_zero, List.getElem_cons_succ]
  simp only [List.setIfInBounds_toArray, List.set_cons_zero, List.set_cons_succ]
  refine wpAnyT_take (i := 21) (v := ?_) rfl (by kernel_rfl) (by kernel_rfl) (by kernel_rfl) (by kernel_rfl) (fun _ _ _ h => h) (Or.inl ⟨by rfl, ?hy21⟩) hSw ?_
  case hy21 => (intro w' hSw'; obtain ⟨k0, k1, k2, k3, k4, k5⟩ := hSw'; go_simp; try with_reducible rfl)
  dsimp only [Act.put, List.getElem_toArray, List.getElem_cons_zero, List.getElem_cons_succ]
  simp only [List.setIfInBounds_toArray, List.set_cons_zero, List.set_cons_succ]
  refine wpAnyT_take (i := 22) (v := ?_) rfl (by kernel_rfl) (by kernel_rfl) (by kernel_rfl) (by kernel_rfl) (fun _ _ _ h => h) (Or.inl ⟨by rfl, ?hy22⟩) hSw ?_
  case hy22 => (intro w' hSw'; obtain ⟨k0, k1, k2, k3, k4, k5⟩ := hSw'; go_simp; try with_reducible rfl)
  dsimp only [Act.put, List.getElem_toArray, List.getElem_cons_zero, List.getElem_cons_succ]
  simp only [List.setIfInBounds_toArray, List.set_cons_zero, List.set_cons_succ]
  refine wpAnyT_take (i := 23) (v := ?_) rfl (by kernel_rfl) (by kernel_rfl) (by kernel_rfl) (by kernel_rfl) (fun _ _ _ h => h) (Or.inl ⟨by rfl, ?hy23⟩) hSw ?_
  case hy23 => (intro w' hSw'; obtain ⟨k0, k1, k2, k3, k4, k5⟩ := hSw'; go_simp; try with_reducible rfl)
  dsimp only [Act.put, List.getElem_toArray, List.getElem_cons_zero, List.getElem_cons_succ]
  simp only [List.setIfInBounds_toArray, List.set_cons_zero, List.set_cons_succ]
  refine wpAnyT_take (i := 24) (v := ?_) rfl (by kernel_rfl) (by kernel_rfl) (by kernel_rfl) (by kernel_rfl) (fun _ _ _ h => h) (Or.inl ⟨by rfl, ?hy24⟩) hSw ?_
  case hy24 => (intro w' hSw'; obtain ⟨k0, k1, k2, k3, k4, k5⟩ := hSw'; go_simp; try with_reducible rfl)
  dsimp only [Act.put, List.getElem_toArray, List.getElem_cons_zero, List.getElem_cons_succ]
  simp only [List.setIfInBounds_toArray, List.set_cons_zero, List.set_cons_succ]
  obtain ⟨k0, k1, k2, k3, k4, k5⟩ := hSw
  refine wpAnyT_one (i := 25) rfl (by kernel_rfl) ?_
  rw [if_pos (by rfl)]
  go_simp
  refine wpAnyT_done (by kernel_rfl) ?_
  generalize IntKind.i64.wrap (z + IntKind.i64.wrap (IntKind.i64.wrap (IntKind.i64.wrap (IntKind.i64.wrap (IntKind.i64.wrap (1 + (desc.size : Int)) + (value.size : Int)) + (start.size : Int)) + (fin.size : Int)) + (rule.size : Int))) = z2
  have N3 := N1.set z2
  have o3 : Only (fun g => NoS g ∨ g = N) w (w2.setCell ⟨N, 0, none⟩ (.int .i64 z2)) := only_set x1.only _
  have f3 : FlT (w2.setCell ⟨N, 0, none⟩ (.int .i64 z2)) w.heap.size ⟨kind, ka, kn, kc, desc, value, start, ma, mn, mc, fin, rule, dn⟩ := f1.only (setOnly w2 N 0 _) (by omega)
  clear k0 k1 k2 k3 k4 k5 hfz N1 x1 f1
  generalize w2.setCell ⟨N, 0, none⟩ (.int .i64 z2) = w3 at N3 o3 f3 ⊢
  obtain ⟨-, -, -, -, -, c5, -, -, -, -⟩ := f3.cells
  simp only at c5
  obtain ⟨hln, hlc, hcm⟩ := (hmh.out _ o3).len
  have hcm' : a.ms.length ≤ 9223372036854775807 := by unfold maxLen at hcm; omega
  have hlnh : Hid (mn = a.ms.length) := hln
  clear hln hlc hcm
  go_wp2
  clear c5
  go_loopw [7, 37] (fun _ i wr => ∃ (k : Nat) (zr : Int), i = .int .i64 k ∧ k ≤ a.ms.length ∧ IBox wr N zr ∧ Hid (Only (fun g => NoS g ∨ g = N) w wr) ∧ FlT wr w.heap.size ⟨kind, ka, kn, kc, desc, value, start, ma, mn, mc, fin, rule, dn⟩) (fun _ i _ => a.ms.length - (intOf i).toNat)
  case atStart => exact ⟨0, z2, rfl, Nat.zero_le _, N3, o3, f3⟩
  case round =>
    clear N3 o3 f3
    obtain ⟨k, zr, rfl, hk, Nr, hor, fr⟩ := hrel
    by_cases hlt : k < a.ms.length
    · have hlt' : (k : Int) < (mn : Int) := by have := hlnh.out; omega
      obtain ⟨g, o, rfl, hc⟩ := (hmh.out _ hor.out).at k hlt
      generalize a.ms[k] = m at hc
      obtain ⟨-, -, -, -, -, c5, -, -, -, -⟩ := fr.cells
      simp only at c5
      obtain ⟨n0, nz⟩ := Nr.cell
      go_upto_region 5 with fail
      refine wp_region_last (fun w' => w'.cell? ⟨N, 0, none⟩ = some (.int .i64 zr) ∧ w'.cell? ⟨w.heap.size, 5, none⟩ = some (.slice (some ⟨g, o, none⟩) mn mc) ∧ w'.cell? ⟨g, o + k, none⟩ = some (.string m)) 12 hmix ?_
      change wpAnyT _ _ _ _ _ _ 13 _ _ wr.drew
      have hSw : wr.drew.cell? ⟨N, 0, none⟩ = some (.int .i64 zr) ∧ wr.drew.cell? ⟨w.heap.size, 5, none⟩ = some (.slice (some ⟨g, o, none⟩) mn mc) ∧ wr.drew.cell? ⟨g, o + k, none⟩ = some (.string m) := ⟨n0, c5, hc⟩
      have hfz : wr.drew.frozen? ⟨N, 0, none⟩ = false := nz
      have N4 : IBox wr.drew N zr := Nr
      have o4 : Hid (Only (fun g => NoS g ∨ g = N) w wr.drew) := hor.out.drew
      have f4 := fr.drew
      clear n0 nz c5 hc Nr hor fr
      generalize wr.drew = w4 at hSw hfz N4 o4 f4 ⊢
      refine wpAnyT_take (i := 0) (v := ?_) rfl (by kernel_rfl) (by kernel_rfl) (by kernel_rfl) (by kernel_rfl) (fun _ _ _ h => h) (Or.inl ⟨by rfl, ?hy0⟩) hSw ?_
      case hy0 => (intro w' hSw'; obtain ⟨k0, k1, k2⟩ := hSw'; go_simp; try with_reducible rfl)
      dsimp only [Act.put, List.getElem_toArray, List.getElem_cons_zero, List.getElem_cons_succ]
      simp only [List.setIfInBounds_toArray, List.set_cons_zero, List.set_cons_succ]
      refine wpAnyT_take (i := 1) (v := ?_) rfl (by kernel_rfl) (by kernel_rfl) (by kernel_rfl) (by kernel_rfl) (fun _ _ _ h => h) (Or.inl ⟨by rfl, ?hy1⟩) hSw ?_
      case hy1 => (intro w' hSw'; obtain ⟨k0, k1, k2⟩ := hSw'; go_simp; try with_reducible rfl)
      dsimp only [Act.put, List.getElem_toArray, List.getElem_cons_zero, List.getElem_cons_succ]
      simp only [List.setIfInBounds_toArray, List.set_cons_zero, List.set_cons_succ]
      refine wpAnyT_take (i := 2) (v := ?_) rfl (by kernel_rfl) (by kernel_rfl) (by kernel_rfl) (by kernel_rfl) (fun _ _ _ h => h) (Or.inl ⟨by rfl, ?hy2⟩) hSw ?_
      case hy2 => (intro w' hSw'; obtain ⟨k0, k1, k2⟩ := hSw'; go_simp; try with_reducible rfl)
      dsimp only [Act.put, List.getElem_toArray, List.getElem_cons_zero, List.getElem_cons_succ]
      simp only [List.setIfInBounds_toArray, List.set_cons_zero, List.set_cons_succ]
      refine wpAnyT_take (i := 3) (v := ?_) rfl (by kernel_rfl) (by kernel_rfl) (by kernel_rfl) (by kernel_rfl) (fun _ _ _ h => h) (Or.inl ⟨by rfl, ?hy3⟩) hSw ?_
      case hy3 => (intro w' hSw'; obtain ⟨k0, k1, k2⟩ := hSw'; go_simp; try with_reducible rfl)
      dsimp only [Act.put, List.getElem_toArray, List.getElem_cons_zero, List.getElem_cons_succ]
      simp only [List.setIfInBounds_toArray, List.set_cons_zero, List.set_cons_succ]
      refine wpAnyT_take (i := 4) (v := ?_) rfl (by kernel_rfl) (by kernel_rfl) (by kernel_rfl) (by kernel_rfl) (fun _ _ _ h => h) (Or.inl ⟨by rfl, ?hy4⟩) hSw ?_
      case hy4 => (intro w' hSw'; obtain ⟨k0, k1, k2⟩ := hSw'; go_simp; try with_reducible rfl)
      dsimp only [Act.put, List.getElem_toArray, List.getElem_cons_zero, List.getElem_cons_succ]
      simp only [List.setIfInBounds_toArray, List.set_cons_zero, List.set_cons_succ]
      refine wpAnyT_take (i := 5) (v := ?_) rfl (by kernel_rfl) (by kernel_rfl) (by kernel_rfl) (by kernel_rfl) (fun _ _ _ h => h) (Or.inl ⟨by rfl, ?hy5⟩) hSw ?_
      case hy5 => (intro w' hSw'; obtain ⟨k0, k1, k2⟩ := hSw'; go_simp; try with_reducible rfl)
      dsimp only [Act.put, List.getElem_toArray, List.getElem_cons_zero, List.getElem_cons_succ]
      simp only [List.setIfInBounds_toArray, List.set_cons_zero, List.set_cons_succ]
      refine wpAnyT_take (i := 6) (v := ?_) rfl (by kernel_rfl) (by kernel_rfl) (by kernel_rfl) (by kernel_rfl) (fun _ _ _ h => h) (Or.inl ⟨by rfl, ?hy6⟩) hSw ?_
      case hy6 => (intro w' hSw'; obtain ⟨k0, k1, k2⟩ := hSw'; go_simp; try with_reducible rfl)
      dsimp only [Act.put, List.getElem_toArray, List.getElem_cons_zero, List.getElem_cons_succ]
      simp only [List.setIfInBounds_toArray, List.set_cons_zero, List.set_cons_succ]
      refine wpAnyT_take (i := 7) (v := ?_) rfl (by kernel_rfl) (by kernel_rfl) (by kernel_rfl) (by kernel_rfl) (fun _ _ _ h => h) (Or.inl ⟨by rfl, ?hy7⟩) hSw ?_
      case hy7 => (intro w' hSw'; obtain ⟨k0, k1, k2⟩ := hSw'; go_simp; try with_reducible rfl)
      dsimp only [Act.put, List.getElem_toArray, List.getElem_cons_zero, List.getElem_cons_succ]
      simp only [List.setIfInBounds_toArray, List.set_cons_zero, List.set_cons_succ]
      refine wpAnyT_take (i := 8) (v := ?_) rfl (by kernel_rfl) (by kernel_rfl) (by kernel_rfl) (by kernel_rfl) (fun _ _ _ h => h) (Or.inl ⟨by rfl, ?hy8⟩) hSw ?_
      case hy8 => (intro w' hSw'; obtain ⟨k0, k1, k2⟩ := hSw'; go_simp; try with_reducible rfl)
      dsimp only [Act.put, List.getElem_toArray, List.getElem_cons_zero, List.getElem_cons_succ]
      simp only [List.setIfInBounds_toArray, List.set_cons_zero, List.set_cons_succ]
      refine wpAnyT_take (i := 9) (v := ?_) rfl (by kernel_rfl) (by kernel_rfl) (by kernel_rfl) (by kernel_rfl) (fun _ _ _ h => h) (Or.inl ⟨by rfl, ?hy9⟩) hSw ?_
      case hy9 => (intro w' hSw'; obtain ⟨k0, k1, k2⟩ := hSw'; go_simp; try with_reducible rfl)
      dsimp only [Act.put, List.getElem_toArray, List.getElem_cons_zero, List.getElem_cons_succ]
      simp only [List.setIfInBounds_toArray, List.set_cons_zero, List.set_cons_succ]
      refine wpAnyT_take (i := 10) (v := ?_) rfl (by kernel_rfl) (by kernel_rfl) (by kernel_rfl) (by kernel_rfl) (fun _ _ _ h => h) (Or.inl ⟨by rfl, ?hy10⟩) hSw ?_
      case hy10 => (intro w' hSw'; obtain ⟨k0, k1, k2⟩ := hSw'; go_simp; try with_reducible rfl)
      dsimp only [Act.put, List.getElem_toArray, List.getElem_cons_zero, List.getElem_cons_succ]
      simp only [List.setIfInBounds_toArray, List.set_cons_zero, List.set_cons_succ]
      refine wpAnyT_take (i := 11) (v := ?_) rfl (by kernel_rfl) (by kernel_rfl) (by kernel_rfl) (by kernel_rfl) (fun _ _ _ h => h) (Or.inl ⟨by rfl, ?hy11⟩) hSw ?_
      case hy11 => (intro w' hSw'; obtain ⟨k0, k1, k2⟩ := hSw'; go_simp; try with_reducible rfl)
      dsimp only [Act.put, List.getElem_toArray, List.getElem_cons_zero, List.getElem_cons_succ]
      simp only [List.setIfInBounds_toArray, List.set_cons_zero, List.set_cons_succ]
      obtain ⟨k0, k1, k2⟩ := hSw
      refine wpAnyT_one (i := 12) rfl (by kernel_rfl) ?_
      rw [if_pos (by rfl)]
      go_simp
      refine wpAnyT_done (by kernel_rfl) ?_
      generalize IntKind.i64.wrap (zr + IntKind.i64.wrap (1 + (m.size : Int))) = z5
      have N5 := N4.set z5
      have o5 : Hid (Only (fun g => NoS g ∨ g = N) w (w4.setCell ⟨N, 0, none⟩ (.int .i64 z5))) := only_set o4.out _
      have f5 : FlT (w4.setCell ⟨N, 0, none⟩ (.int .i64 z5)) w.heap.size ⟨kind, ka, kn, kc, desc, value, start, some ⟨g, o, none⟩, mn, mc, fin, rule, dn⟩ := f4.only (setOnly w4 N 0 _) (by omega)
      clear k0 k1 k2 hfz N4 o4 f4
      generalize w4.setCell ⟨N, 0, none⟩ (.int .i64 z5) = w5 at N5 o5 f5 ⊢
      obtain ⟨n5, -⟩ := N5.cell
      by_cases hb : (134217728 : Int) < z5
      · go_wp2
        go_ret
        exact ⟨⟨_, rfl⟩, ⟨_, N5⟩, o5.out⟩
      · go_wp2
        go_roundw
        case rel => exact ⟨k + 1, z5, by go_num, by omega, N5, o5, f5⟩
        case measure => simp [intOf]; omega
    · have hlt' : ¬ (k : Int) < (mn : Int) := by have := hlnh.out; omega
      obtain ⟨n5, -⟩ := Nr.cell
      obtain ⟨-, c1, -, -, -, -, -, -, -, -⟩ := fr.cells
      simp only at c1
      by_cases hb : (134217728 : Int) < zr
      · go_wp2
        go_ret
        exact ⟨⟨_, rfl⟩, ⟨_, Nr⟩, hor.out⟩
      · by_cases hb2 : (65536 : Int) < ab
        · go_wp2
          go_ret
          exact ⟨⟨_, rfl⟩, ⟨_, Nr⟩, hor.out⟩
        · go_wp2
          clear c1 n5
          go_loopw [8, 68] (fun _ i wq => ∃ (j : Nat) (r : FT) (zq : Int), i = .int .i64 j ∧ j ≤ kn ∧ Hid (j + r.len = kn) ∧ Hid (CtsAll r) ∧ Hid (r.len = 0 ∨ ∃ g o, ka = some ⟨g, o, none⟩ ∧ KStay w NoS N r g (o + 9 * j)) ∧ IBox wq N zq ∧ Hid (Only (fun g => NoS g ∨ g = N) w wq) ∧ FlT wq w.heap.size ⟨kind, ka, kn, kc, desc, value, start, ma, mn, mc, fin, rule, dn⟩) (fun _ i _ => kn - (intOf i).toNat)
          case atStart => exact ⟨0, kids, zr, rfl, Nat.zero_le _, by show _ = _; have := hknh.out; omega, hallh, hkh, Nr, hor, fr⟩
          case round =>
            clear hallh hkh Nr hor fr hlt hlt' hb
            obtain ⟨j, r, zq, rfl, hj, hjr, hA, hF, Nq, hoq, fq⟩ := hrel
            obtain ⟨-, c1, -, -, -, -, -, -, -, -⟩ := fq.cells
            simp only at c1
            by_cases hlt : j < kn
            · have hlt' : (j : Int) < (kn : Int) := by omega
              obtain ⟨b3, k3, r3, rfl⟩ : ∃ a kids rest, r = .cons a kids rest := FT.pos (by have := hjr.out; omega)
              obtain ⟨g3, o3, rfl, hce⟩ : ∃ g o, ka = some ⟨g, o, none⟩ ∧ KStay w NoS N (.cons b3 k3 r3) g (o + 9 * j) := by
                rcases hF.out with h | h
                · simp [FT.len] at h
                · exact h
              obtain ⟨f3, v3, u3, t3⟩ := hce.here
              have u3 := u3 _ hoq.out
              have hcall := hA.out.1 _ N zq (ab + 1) f3 Nq (v3.next hoq.out (fun _ _ h => h)) (by omega) (by omega)
              obtain ⟨kind3, ka3, kn3, kc3, desc3, value3, start3, ma3, mn3, mc3, fin3, rule3, dn3⟩ := f3
              have e30 := u3 0 (by simp [F9.arr])
              have e31 := u3 1 (by simp [F9.arr])
              have e32 := u3 2 (by simp [F9.arr])
              have e33 := u3 3 (by simp [F9.arr])
              have e34 := u3 4 (by simp [F9.arr])
              have e35 := u3 5 (by simp [F9.arr])
              have e36 := u3 6 (by simp [F9.arr])
              have e37 := u3 7 (by simp [F9.arr])
              have e38 := u3 8 (by simp [F9.arr])
              simp only [F9.arr, List.getElem_toArray, List.getElem_cons_zero, List.getElem_cons_succ, Nat.add_zero] at e30 e31 e32 e33 e34 e35 e36 e37 e38
              rw [show o3 + 9 * j = o3 + j * 9 by omega] at e30 e31 e32 e33 e34 e35 e36 e37 e38
              simp only [F9.arr] at hcall
              have t3h : Hid (KStay w NoS N r3 g3 (o3 + 9 * j + 9)) := t3
              have hAr : Hid (CtsAll r3) := hA.out.2
              have hlen3 : Hid (j + 1 + r3.len = kn) := by show _ = _; have := hjr.out; simp only [FT.len] at this; omega
              clear hce t3 u3 v3 hA hF hjr
              clear hknh hmh hlnh hcm'
              go_wp2_with fail
              go_at_call 40
              refine hcall.mono ?_
              rintro _ w6 ⟨⟨b6, rfl⟩, ⟨z6, N6⟩, o6⟩
              have f6 := fq.only o6 (fun h => h.elim id (fun h => by omega))
              have o6h : Hid (Only (fun g => NoS g ∨ g = N) w w6) := hoq.out.then o6
              clear e30 e31 e32 e33 e34 e35 e36 e37 e38 hcall o6 hoq Nq fq c1
              try dsimp only
              cases b6 with
              | true =>
                go_wp2
                go_ret
                exact ⟨⟨_, rfl⟩, ⟨_, N6⟩, o6h.out⟩
              | false =>
                go_wp2
                go_roundw
                case rel => exact ⟨j + 1, r3, z6, by go_num, by omega, hlen3, hAr, .inr ⟨g3, o3, rfl, by rw [show o3 + 9 * (j + 1) = o3 + 9 * j + 9 by omega]; exact t3h.out⟩, N6, o6h, f6⟩
                case measure => simp [intOf]; omega
            · have hlt' : ¬ (j : Int) < (kn : Int) := by omega
              clear hA hF hjr c1
              go_wp2
              go_ret
              exact ⟨⟨_, rfl⟩, ⟨_, Nq⟩, hoq.out⟩
theorem cts_all : ∀ x : FT, CtsAll x
  | .nil => trivial
  | .cons a kids rest => ⟨cts_step a kids (cts_all kids), cts_all rest⟩
theorem cts_any (a : OwnF) (kids : FT) : CtsSpec a kids := cts_step a kids (cts_all kids)

set_option maxRecDepth 100000 in
set_option maxHeartbeats 8000000 in
theorem beyond_any (w : World) (f : F9) (a : OwnF) (kids : FT) (ho : FOwn w f a) (hk : FKids w f kids) : Calls Tryz.prog 18 #[.agg f.arr] w fun e w' => (∃ b, e = .returned (.bool b)) ∧ Ext w w' := by
  have hC := fun W N z (h : IBox W N z) (e : Ext w W) (hN : w.heap.size ≤ N) => cts_any a kids W N z 0 f h (fun W2 o => ⟨ho.ext (e.then o (fun g hg => hg.elim (fun k => k.elim) (fun k => by omega))), hk.ext (e.then o (fun g hg => hg.elim (fun k => k.elim) (fun k => by omega)))⟩) (by omega) (by omega)
  clear ho hk
  obtain ⟨kind, ka, kn, kc, desc, value, start, ma, mn, mc, fin, rule, dn⟩ := f
  simp only [F9.arr] at hC ⊢
  have f0 : FlT (w.alloc (.cells #[.int .i8 kind, .slice ka kn kc, .string desc, .string value, .string start, .slice ma mn mc, .string fin, .string rule, .bool dn] 27)) w.heap.size ⟨kind, ka, kn, kc, desc, value, start, ma, mn, mc, fin, rule, dn⟩ := heap_alloc_new _ _
  have x0 := (Ext.refl w).alloc (.cells #[.int .i8 kind, .slice ka kn kc, .string desc, .string value, .string start, .slice ma mn mc, .string fin, .string rule, .bool dn] 27)
  have x1 := x0.trans ((Ext.refl (w.alloc (.cells #[.int .i8 kind, .slice ka kn kc, .string desc, .string value, .string start, .slice ma mn mc, .string fin, .string rule, .bool dn] 27))).alloc (.cells #[.int .i64 0] 3))
  have f1 := f0.ext ((Ext.refl (w.alloc (.cells #[.int .i8 kind, .slice ka kn kc, .string desc, .string value, .string start, .slice ma mn mc, .string fin, .string rule, .bool dn] 27))).alloc (.cells #[.int .i64 0] 3))
  have b1 : IBox ((w.alloc (.cells #[.int .i8 kind, .slice ka kn kc, .string desc, .string value, .string start, .slice ma mn mc, .string fin, .string rule, .bool dn] 27)).alloc (.cells #[.int .i64 0] 3)) (w.alloc (.cells #[.int .i8 kind, .slice ka kn kc, .string desc, .string value, .string start, .slice ma mn mc, .string fin, .string rule, .bool dn] 27)).heap.size 0 := heap_alloc_new _ _
  rw [World.size_alloc] at b1
  clear f0 x0
  go_enter Tryz.func18, Tryz.ntmps18
  go_upto_region 2 with fail
  generalize World.alloc (w.alloc _) _ = w1 at f1 x1 b1 ⊢
  have hc := hC _ _ _ b1 x1 (by omega)
  obtain ⟨c0, c1, c2, c3, c4, c5, c6, c7, c8, cz⟩ := f1.cells
  simp only at c0 c1 c2 c3 c4 c5 c6 c7 c8
  clear hC
  go_wp2_with fail
  go_at_call 40
  refine hc.mono ?_
  rintro _ w2 ⟨⟨b2, rfl⟩, ⟨z2, N2⟩, o2⟩
  have x2 : Ext w w2 := x1.then o2 (fun g hg => hg.elim (fun k => k.elim) (fun k => by omega))
  clear c0 c1 c2 c3 c4 c5 c6 c7 c8 cz hc N2 o2
  try dsimp only
  go_wp2
  go_ret
  exact ⟨⟨_, rfl⟩, x2⟩
end Go.Proofs.YtbhlfhedfgmloaaGreatDoor

/-
  PacketBack: what is written is read as it was (written by gen/mkback.py).
-/
namespace Go.Proofs.YtbhlfhedfgmloaaGreatDoor
open Go.RowKit Go.Shelf

set_option maxRecDepth 100000 in
set_option maxHeartbeats 8000000 in
theorem PacketBack_any (w : World) (f : F9) (a : OwnF) (k : FT) (ho : FOwn w f a) (hk : FKids w f k) :
    Calls Tryz.prog 7 #[.agg f.arr] w fun e w' => e = .returned (.bool true) ∧ Ext w w' := by
  have hB := fun W (y : Ext w W) => beyond_any W f a k (ho.ext y) (hk.ext y)
  have hC := fun W (y : Ext w W) => Check_any W (.agg f.arr) a k ⟨f, rfl, ho.ext y, hk.ext y⟩
  have hE := fun W (y : Ext w W) => Encode_any W f a k (ho.ext y) (hk.ext y)
  have hV : Hid (∀ W, Ext w W → FOwn W f a ∧ FKids W f k) := fun W y => ⟨ho.ext y, hk.ext y⟩
  have hen : Hid (encL a k = ([], (checkL a k).1) ∧ (checkL a k).1 ≠ 0 ∨ (checkL a k).1 = 0 ∧ (encL a k = ([], 3) ∨ encL a k = (bOne a (bKids k), 0) ∧ (bOne a (bKids k)).length ≤ 1048576)) := encL_is a k
  have hback : Hid ((checkL a k).1 = 0 → (bOne a (bKids k)).length ≤ 1048576 → decodeR (bOne a (bKids k)) = .ok (a, k)) := fun h1 h2 => decode_back h1 h2
  generalize checkL a k = ck at hC hen hback
  obtain ⟨ck1, ck2, ck3⟩ := ck
  simp only at hC hen hback
  generalize bOne a (bKids k) = bs at hen hback
  generalize encL a k = en at hE hen
  obtain ⟨kG, kaG, knG, kcG, dG, vG, sG, maG, mnG, mcG, eG, rG, bG⟩ := f
  simp only [F9.arr] at hB hC hE ⊢
  have g1 : FlT (w.alloc (.cells #[.int .i8 kG, .slice kaG knG kcG, .string dG, .string vG, .string sG, .slice maG mnG mcG, .string eG, .string rG, .bool bG] 27)) w.heap.size ⟨kG, kaG, knG, kcG, dG, vG, sG, maG, mnG, mcG, eG, rG, bG⟩ := heap_alloc_new _ _
  have x1 := (Ext.refl w).alloc (.cells #[.int .i8 kG, .slice kaG knG kcG, .string dG, .string vG, .string sG, .slice maG mnG mcG, .string eG, .string rG, .bool bG] 27)
  clear ho hk
  go_enter Tryz.func7, Tryz.ntmps7
  go_upto_region 1 with fail
  generalize w.alloc _ = w1 at g1 x1 ⊢
  obtain ⟨c0, c1, c2, c3, c4, c5, c6, c7, c8, cz⟩ := g1.cells
  simp only at c0 c1 c2 c3 c4 c5 c6 c7 c8
  have hB1 := hB _ x1
  go_wp2_with fail
  go_at_call 18
  refine hB1.mono ?_
  rintro _ w2 ⟨⟨b2, rfl⟩, x2⟩
  have g2 := g1.ext x2
  have y2 := x1.trans x2
  clear c0 c1 c2 c3 c4 c5 c6 c7 c8 cz g1 hB hB1 x1 x2
  have hW2 := works_any w2
  try dsimp only
  cases b2 with
  | true =>
    clear hen hback hV hC hE
    go_wp2_with fail
    go_at_call 15
    refine hW2.mono ?_
    rintro _ w3 ⟨rfl, x3⟩
    try dsimp only
    go_wp2
    go_ret
    exact ⟨rfl, y2.trans x3⟩
  | false =>
    go_wp2_with fail
    go_at_call 15
    refine hW2.mono ?_
    rintro _ w3 ⟨rfl, x3⟩
    have g3 := g2.ext x3
    have y3 := y2.trans x3
    have hE3 := hE _ y3
    clear hW2 g2 y2 x3 hE
    obtain ⟨c0, c1, c2, c3, c4, c5, c6, c7, c8, cz⟩ := g3.cells
    simp only at c0 c1 c2 c3 c4 c5 c6 c7 c8
    try dsimp only
    go_wp2_with fail
    go_at_call 21
    refine hE3.mono ?_
    rintro _ w4 ⟨u, rfl, r4, x4⟩
    have g4 := g3.ext x4
    have y4 := y3.trans x4
    have hC4 := hC _ y4
    have hs4 := r4.sl
    obtain ⟨ua, un, uc, rfl⟩ := hs4.lit
    have hun : un = en.1.length := by obtain ⟨a', c', e', _⟩ := hs4; simp only [Value.slice.injEq] at e'; exact e'.2.1
    have hunh : Hid (un = en.1.length) := hun
    have hsh : Hid (Sl w4 (.slice ua un uc) en.1) := hs4
    clear c0 c1 c2 c3 c4 c5 c6 c7 c8 cz g3 y3 hE3 hC r4 x4 hs4 hun
    obtain ⟨c0, c1, c2, c3, c4, c5, c6, c7, c8, cz⟩ := g4.cells
    simp only at c0 c1 c2 c3 c4 c5 c6 c7 c8
    try dsimp only
    go_wp2_with fail
    go_at_call 36
    refine hC4.mono ?_
    rintro _ w5 ⟨rfl, x5⟩
    have g5 := g4.ext x5
    have y5 := y4.trans x5
    clear c0 c1 c2 c3 c4 c5 c6 c7 c8 cz g4 hC4
    try dsimp only
    rcases hen.out with ⟨e1, e2⟩ | ⟨e2, e1 | ⟨e1, e3⟩⟩
    · obtain rfl := e1
      obtain rfl : un = 0 := hunh.out
      have q1 : ((ck1 : Int) != 0) = true := by simp; omega
      clear hen hback hunh hsh e2 hV
      go_wp2
      all_goals
        go_ret
        exact ⟨rfl, y5⟩
    · obtain rfl := e1
      obtain rfl : un = 0 := hunh.out
      subst e2
      clear hen hback hunh hsh hV
      go_wp2
      go_ret
      exact ⟨rfl, y5⟩
    · obtain rfl := e1
      subst e2
      have hD5 := Decode_any w5 _ bs (hsh.out.ext x5) (Nat.lt_of_le_of_lt e3 (by decide))
      rw [hback.out rfl e3] at hD5
      have hun2 : (un : Int) ≤ 1048576 := by have := hunh.out; simp only at this; omega
      clear hen hback hunh hsh e3
      go_wp2_with fail
      go_at_call 11
      refine hD5.mono ?_
      rintro _ w6 ⟨x6, hd6⟩
      obtain ⟨fh, rfl, hh⟩ := hd6
      obtain ⟨hO, hK⟩ := hh.self
      obtain ⟨kH, kaH, knH, kcH, dH, vH, sH, maH, mnH, mcH, eH, rH, bH⟩ := fh
      simp only at hO hK
      simp only [F9.arr]
      have h7 : FlT (w6.alloc (.cells #[.int .i8 kH, .slice kaH knH kcH, .string dH, .string vH, .string sH, .slice maH mnH mcH, .string eH, .string rH, .bool bH] 27)) w6.heap.size ⟨kH, kaH, knH, kcH, dH, vH, sH, maH, mnH, mcH, eH, rH, bH⟩ := heap_alloc_new _ _
      have y7 := (Ext.refl w6).alloc (.cells #[.int .i8 kH, .slice kaH knH kcH, .string dH, .string vH, .string sH, .slice maH mnH mcH, .string eH, .string rH, .bool bH] 27)
      have g7 := g5.ext (x6.trans y7)
      have y57 := y5.trans (x6.trans y7)
      clear hh hD5 x6 g5 y5 x5 y4
      try dsimp only
      go_upto_region 8 with fail
      generalize w6.alloc _ = w7 at h7 y7 g7 y57 ⊢
      have v1 := hV.out w7 y57
      have hS := same_any w7 _ _ a a k k ⟨_, rfl, hO.ext y7, hK.ext y7⟩ ⟨_, rfl, v1.1, v1.2⟩
      rw [decide_eq_true (show a = a ∧ k = k from ⟨rfl, rfl⟩)] at hS
      simp only [F9.arr] at hS
      obtain ⟨c0, c1, c2, c3, c4, c5, c6, c7, c8, cz⟩ := g7.cells
      obtain ⟨d0, d1, d2, d3, d4, d5, d6, d7, d8, dz⟩ := h7.cells
      simp only at c0 c1 c2 c3 c4 c5 c6 c7 c8 d0 d1 d2 d3 d4 d5 d6 d7 d8
      clear v1 hO hK y7 hV g7 h7
      go_wp2_with fail
      go_at_call 12
      refine hS.mono ?_
      rintro _ w8 ⟨rfl, x8⟩
      try dsimp only
      go_wp2
      go_ret
      exact ⟨rfl, y57.trans x8⟩
end Go.Proofs.YtbhlfhedfgmloaaGreatDoor

/-
  PacketBack: whatever the filter, the call returns true and leaves it as it was; the listed tables start as the program's text lays them.
-/
namespace Go.Proofs.YtbhlfhedfgmloaaGreatDoor.packetBack
open Go.ChangeShapes Go.WideShapes Go.ChangeAt Go.RowKit Go.Shelf

set_option maxRecDepth 100000 in
theorem contract (H : Type) (enc : TypeId × Value → H) (W : World) (base : Nat) (args : Array Value) (ds gs : List (DataW H)) (before : List MemPlace)
    (hval : ∀ (j : Nat) t v, Tryz.f7.params[j]? = some t → args[j]? = some v → Value.okWide Tryz.prog W .any base t v)
    (hW : DataW.Whole enc Tryz.prog Tryz.f7.params.toList Rows.packetBackSpec.vars false W args.toList ds gs before) (hsz : (DataW.weightsEach Tryz.prog (Tryz.f7.params.toList ++ (OpenSpec.ofChange Rows.packetBackSpec).bare.plain.varTypes Tryz.prog) (ds ++ gs)).all (· ≤ reachBytes) = true) :
    Calls Tryz.prog 7 args W fun e W' => ∃ v, e = .returned v ∧ Rows.packetBackSpec.post enc Tryz.prog Tryz.f7 false true false false W args v W' := by
  have hW' := hW
  have hlt := hW.lt
  obtain ⟨p, q, hA0, hV, rfl, _, _⟩ := hW
  have hA : DataW.TrodAll enc Tryz.prog W 0 (fun _ => true) true Tryz.f7.params.toList args.toList ds p := hA0
  have hAa := hA
  rw [Tryz.params7] at hA hval
  obtain ⟨v0, vs0, d0, ds0, p0, q0, hargs, rfl, rfl, h0, r0⟩ := trodAll_cons hA
  obtain ⟨rfl, rfl, rfl⟩ := trodAll_nil r0
  obtain rfl : args = #[v0] := by cases args; simp_all
  obtain ⟨rfl, rfl⟩ := trodVars_none hV
  have hbd : Bnd d0 27 := fun n hn => by
    have := List.all_eq_true.1 hsz _ (DataW.weights_mem_each (j := 0) (t := 27) (d := d0) rfl rfl n hn)
    simpa using this
  obtain ⟨f, a, k, rfl, hO, hK⟩ := open_filter (hval 0 27 v0 rfl rfl) h0 hbd
  clear hA0
  simp only [List.append_nil] at hW' hlt hAa
  refine (PacketBack_any W f a k hO hK).mono fun e W' ⟨he, hg⟩ => ?_
  subst he
  refine ⟨_, rfl, _, _, _, [], _, [], hW', ?_, args_again (by rw [Tryz.params7]; decide) hAa hlt hg, ?_, Below.frame hg _, fun h => by cases h⟩
  · exact trodAll_mk1 (shut_bool Tryz.underlying4 _)
  · rfl

theorem reads (os : Os) {H : Type} (enc : TypeId × Value → H) : ∃ places, DataW.whole enc Tryz.prog ((laidWorld os).forCall (fun _ _ => 0) ⟨#[], #[.agg #[.int .i8 0, .slice none 0 0, .string ⟨#[]⟩, .string ⟨#[]⟩, .string ⟨#[]⟩, .slice none 0 0, .string ⟨#[]⟩, .string ⟨#[]⟩, .bool false]], []⟩).memory Tryz.f7.params.toList Rows.packetBackSpec.vars false #[Value.agg #[.int .i8 0, .slice none 0 0, .string ⟨#[]⟩, .string ⟨#[]⟩, .string ⟨#[]⟩, .slice none 0 0, .string ⟨#[]⟩, .string ⟨#[]⟩, .bool false]].toList 8 = some ([.agg [.lit (.int .i8 0), .nil, .lit (.string []), .lit (.string []), .lit (.string []), .nil, .lit (.string []), .lit (.string []), .lit (.bool false)]], [], places) :=
  ⟨[], by kernel_rfl⟩

set_option maxRecDepth 100000 in
theorem lifted (os : Os) (started : os.Started) (H : Type) (enc : TypeId × Value → H) (F : Stop.Interp) :
    ReturnsInHanded {} Tryz.checked os 7 .any ((OpenSpec.ofChange Rows.packetBackSpec).preRow enc Tryz.prog Tryz.f7 Rows.packetBackRow.domain false Rows.packetBackRow.laid) (((OpenSpec.ofChange Rows.packetBackSpec).at F).post enc Tryz.prog Tryz.f7 false true false false) := by
  obtain ⟨places, hx⟩ := reads os enc
  refine returnsInHanded_of_row (C := Tryz.checked) (s := OpenSpec.ofChange Rows.packetBackSpec) ownKnob_none started (by kernel_rfl) Tryz.func7
    (witness_row_atRef (enc := enc) (C := Tryz.checked) false (laidWorld os) #[.agg #[.int .i8 0, .slice none 0 0, .string ⟨#[]⟩, .string ⟨#[]⟩, .string ⟨#[]⟩, .slice none 0 0, .string ⟨#[]⟩, .string ⟨#[]⟩, .bool false]] rfl (by kernel_rfl) (by kernel_rfl) (by kernel_rfl)
      (OpenSpec.preRow_of_cond 8 hx (by kernel_rfl) (fun k hk => by cases hk) (by kernel_rfl) (laid_met os _))) ?_
  intro W base args ds gs before hval hW _ _ hsz _ _ _
  exact contract H enc W base args ds gs before hval hW hsz

theorem said : Rows.PacketBackSaid :=
  OpenClaim.holds_of_cond 7 Tryz.f7 rfl rfl rfl rfl rfl rfl rfl ⟨rfl, rfl, rfl, rfl, rfl⟩ rfl rfl rfl rfl rfl (by kernel_rfl) Tryz.func7 (by kernel_rfl)
    (of_decide_eq_true (by kernel_rfl)) (by unfold Func.isWrapper; first | (rw [if_pos (by decide +kernel)]; kernel_rfl) | (rw [if_neg (by decide +kernel)]; exact ⟨rfl, rfl⟩))
    (fun os started H enc _ F => by rw [OpenClaim.pre_eq_preRow]; exact lifted os started H enc F)

theorem plain (f : FuncId) (fn : Func) (hf : Tryz.pinned.checked.prog.funcNamed "roster/rosterlaw11.PacketBack" = some f) (hfn : Tryz.pinned.checked.prog.funcs[f]? = some fn) :
    true = Tryz.pinned.checked.prog.looks [] ∧ ∀ (j : Nat) t, fn.params[j]? = some t → Tryz.pinned.checked.prog.wantsStandIn t = false := by
  obtain rfl : f = 7 := Option.some.inj ((show Tryz.prog.funcNamed "roster/rosterlaw11.PacketBack" = some 7 by kernel_rfl).symm.trans hf) |>.symm
  obtain rfl : fn = Tryz.f7 := (Option.some.inj (Tryz.func7.symm.trans hfn)).symm
  refine ⟨by kernel_rfl, fun j t ht => ?_⟩
  rw [Tryz.params7] at ht
  obtain rfl : t = 27 := by simpa using Array.mem_of_getElem? ht
  exact (show Tryz.prog.wantsStandIn 27 = false by kernel_rfl)

theorem card : Rows.PacketBackCardSaid :=
  Claim7.holds_tied_plain_at .later [] _ _ _ _ said (fun _ h => by cases h) (by kernel_rfl) (fun _ h => by cases h) packetBack_row_tie rfl ⟨rfl, rfl⟩ (by kernel_rfl) rfl plain (by kernel_rfl)
end Go.Proofs.YtbhlfhedfgmloaaGreatDoor.packetBack
namespace Go.Proofs.YtbhlfhedfgmloaaGreatDoor
theorem packetBack_card : Rows.PacketBackCardSaid := packetBack.card
end Go.Proofs.YtbhlfhedfgmloaaGreatDoor
