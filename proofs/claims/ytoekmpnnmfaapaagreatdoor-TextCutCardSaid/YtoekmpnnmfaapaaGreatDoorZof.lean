/-
  A filter that comes in, as a tree.
-/
import Derived.Test.YtoekmpnnmfaapaaGreatDoorMcard
import Derived.Test.YtoekmpnnmfaapaaGreatDoorQI
import Derived.SizedLaws

namespace Go.Proofs.YtoekmpnnmfaapaaGreatDoor
open Go.ChangeShapes Go.WideShapes Go.ChangeAt Go.RowKit Go.Shelf

set_option maxRecDepth 100000
theorem cellsF : Tryz.prog.cellsOf 26 = 9 := by kernel_rfl
theorem cellsStr : Tryz.prog.cellsOf 9 = 1 := by kernel_rfl
theorem cellsI8 : Tryz.prog.cellsOf 22 = 1 := by kernel_rfl
theorem cellsB : Tryz.prog.cellsOf 4 = 1 := by kernel_rfl
theorem cellsFs : Tryz.prog.cellsOf 23 = 1 := by kernel_rfl
theorem cellsSs : Tryz.prog.cellsOf 24 = 1 := by kernel_rfl
theorem nineL {α : Type} {l : List α} (h : l.length = 9) : ∃ a b c d e f g i j, l = [a, b, c, d, e, f, g, i, j] := by
  match l, h with
  | [a, b, c, d, e, f, g, i, j], _ => exact ⟨a, b, c, d, e, f, g, i, j, rfl⟩
theorem weights_all_mem {H : Type} {P : Program} {e : TypeId} {d : DataW H} {n : Nat} : ∀ {ds : List (DataW H)}, d ∈ ds → n ∈ d.weights P e → n ∈ DataW.weightsAll P e ds
  | [], h, _ => by simp at h
  | d0 :: ds, h, hn => by
    simp only [DataW.weightsAll, List.mem_append]
    rcases List.mem_cons.1 h with rfl | h1
    · exact .inl hn
    · exact .inr (weights_all_mem h1 hn)
/-- nothing in it is greater than may be -/
def Bnd {H : Type} (d : DataW H) (t : TypeId) : Prop := ∀ n ∈ d.weights Tryz.prog t, n ≤ reachBytes
theorem agg_weights {H : Type} (ds : List (DataW H)) : (DataW.agg ds).weights Tryz.prog 26 = DataW.weightsEach Tryz.prog [22, 23, 9, 9, 9, 24, 9, 9, 4] ds := by
  simp [DataW.weights, Tryz.underlying26]
theorem bnd_part {H : Type} {ds : List (DataW H)} (h : Bnd (.agg ds) 26) {j : Nat} {t : TypeId} {d : DataW H} (ht : [22, 23, 9, 9, 9, 24, 9, 9, 4][j]? = some t) (hd : ds[j]? = some d) : Bnd d t := fun n hn => h n (by rw [agg_weights]; exact DataW.weights_mem_each ht hd n hn)
theorem bnd_str {H : Type} {s : ByteArray} (h : Bnd (H := H) (.lit (.string s.data.toList)) 9) : s.size ≤ 281474976710656 := by
  have := h s.data.toList.length (by simp [DataW.weights])
  have e : s.data.toList.length = s.size := Array.length_toList
  unfold reachBytes at this
  omega
theorem open_texts {H : Type} {enc : TypeId × Value → H} {W : World} {sp : Nat → Bool} {n : Nat} {u : Value} {x : DataW H × List MemPlace} (h : DataW.trod enc Tryz.prog W 0 sp true n 24 [u] = some x) (hb : Bnd x.1 24) : ∃ ms, SSl W u ms ∧ sized ms := by
  rcases DataW.trod_slice Tryz.underlying24 h with ⟨h0, _⟩ | ⟨a, len, cap, elems, rest, m, rfl, h0, hx, _, hl, hm, hlen, hel, _, _⟩
  · simp only [List.cons.injEq, and_true] at h0
    subst h0
    exact ⟨[], ssl_nil rfl (Nat.zero_le _), fun s hs => by cases hs⟩
  · simp only [List.cons.injEq, and_true] at h0
    subst h0
    rw [cellsStr] at hel
    have hstep : ∀ i, i < len → ∃ s : ByteArray, W.cell? (a.add (i * 1)) = some (.string s) ∧ s.size ≤ 281474976710656 := by
      intro i hi
      have h1 := hel i hi
      rw [List.getElem?_eq_getElem (by omega)] at h1
      obtain ⟨cs, hcs, hcs2⟩ := Option.bind_eq_some_iff.1 h1
      obtain ⟨s, rfl, ex, _⟩ := DataW.trod_string Tryz.underlying9 hcs2
      refine ⟨s, ?_, ?_⟩
      · have hc := (World.cells?_some hcs).2.2 0 (by omega)
        have hadd : (a.add (i * 1)).add 0 = a.add (i * 1) := by
          unfold Addr.add
          split <;> split <;> simp_all
        rw [hadd] at hc
        rw [hc]
        rfl
      · refine bnd_str (H := H) (fun n hn => hb n ?_)
        rw [hx]
        simp only [DataW.weights, Tryz.underlying24]
        refine List.mem_cons_of_mem _ (List.mem_append_left _ ?_)
        refine weights_all_mem (d := .lit (.string s.data.toList)) ?_ hn
        rw [List.mem_map]
        exact ⟨elems[i], List.getElem_mem _, by rw [ex]⟩
    by_cases hl0 : len = 0
    · subst hl0
      exact ⟨[], ssl_nil rfl hm, fun s hs => by cases hs⟩
    have hspot : a.spot = none := by
      obtain ⟨s, hc, _⟩ := hstep 0 (by omega)
      simpa [Addr.add] using World.cell?_spot hc
    obtain ⟨ab, ao, spot⟩ := a
    simp only at hspot
    subst hspot
    obtain ⟨f, hf⟩ : ∃ f : Fin len → ByteArray, ∀ i : Fin len, W.cell? ((⟨ab, ao, none⟩ : Addr).add (i.val * 1)) = some (.string (f i)) ∧ (f i).size ≤ 281474976710656 :=
      ⟨fun i => Classical.choose (hstep i.val i.isLt), fun i => Classical.choose_spec (hstep i.val i.isLt)⟩
    refine ⟨List.ofFn f, ⟨some ⟨ab, ao, none⟩, cap, by simp, by simpa using hl, hm, fun j hj => ?_⟩, fun s hs => ?_⟩
    · have hj' : j < len := by simpa using hj
      refine ⟨ab, ao, rfl, ?_⟩
      have := (hf ⟨j, hj'⟩).1
      rw [Addr.add_lit, Nat.mul_one] at this
      simpa using this
    · rw [List.mem_ofFn] at hs
      obtain ⟨i, rfl⟩ := hs
      exact (hf i).2
theorem filter_cells {H : Type} {enc : TypeId × Value → H} {W : World} {sp : Nat → Bool} {n : Nat} {cs : List Value} {x : DataW H × List MemPlace} (h : DataW.trod enc Tryz.prog W 0 sp true n 26 cs = some x) (hb : Bnd x.1 26) :
    ∃ (kd : Int) (u um : Value) (d v s e r : ByteArray) (b : Bool) (m : Nat) (yk : DataW H × List MemPlace) (ms : List ByteArray), cs = [.int .i8 kd, u, .string d, .string v, .string s, um, .string e, .string r, .bool b] ∧ (-128 ≤ kd ∧ kd ≤ 127) ∧ n = m + 1 ∧ DataW.trod enc Tryz.prog W 0 sp true m 23 [u] = some yk ∧ Bnd yk.1 23 ∧ SSl W um ms ∧ sized ms ∧ d.size ≤ 281474976710656 ∧ v.size ≤ 281474976710656 ∧ s.size ≤ 281474976710656 ∧ e.size ≤ 281474976710656 ∧ r.size ≤ 281474976710656 := by
  obtain ⟨xs, k, rfl, hx, hl, hxl, hall⟩ := DataW.trod_struct Tryz.underlying26 h
  rw [cellsF] at hl
  obtain ⟨c0, c1, c2, c3, c4, c5, c6, c7, c8, rfl⟩ := nineL hl
  obtain ⟨x0, x1, x2, x3, x4, x5, x6, x7, x8, rfl⟩ := nineL (show xs.length = 9 from hxl)
  have f0 := hall 0 _ rfl
  have f1 := hall 1 _ rfl
  have f2 := hall 2 _ rfl
  have f3 := hall 3 _ rfl
  have f4 := hall 4 _ rfl
  have f5 := hall 5 _ rfl
  have f6 := hall 6 _ rfl
  have f7 := hall 7 _ rfl
  have f8 := hall 8 _ rfl
  change DataW.trod _ _ _ _ _ _ _ 22 (([c0, c1, c2, c3, c4, c5, c6, c7, c8].drop 0).take (Tryz.prog.cellsOf 22)) = some x0 at f0
  change DataW.trod _ _ _ _ _ _ _ 23 (([c0, c1, c2, c3, c4, c5, c6, c7, c8].drop 1).take (Tryz.prog.cellsOf 23)) = some x1 at f1
  change DataW.trod _ _ _ _ _ _ _ 9 (([c0, c1, c2, c3, c4, c5, c6, c7, c8].drop 2).take (Tryz.prog.cellsOf 9)) = some x2 at f2
  change DataW.trod _ _ _ _ _ _ _ 9 (([c0, c1, c2, c3, c4, c5, c6, c7, c8].drop 3).take (Tryz.prog.cellsOf 9)) = some x3 at f3
  change DataW.trod _ _ _ _ _ _ _ 9 (([c0, c1, c2, c3, c4, c5, c6, c7, c8].drop 4).take (Tryz.prog.cellsOf 9)) = some x4 at f4
  change DataW.trod _ _ _ _ _ _ _ 24 (([c0, c1, c2, c3, c4, c5, c6, c7, c8].drop 5).take (Tryz.prog.cellsOf 24)) = some x5 at f5
  change DataW.trod _ _ _ _ _ _ _ 9 (([c0, c1, c2, c3, c4, c5, c6, c7, c8].drop 6).take (Tryz.prog.cellsOf 9)) = some x6 at f6
  change DataW.trod _ _ _ _ _ _ _ 9 (([c0, c1, c2, c3, c4, c5, c6, c7, c8].drop 7).take (Tryz.prog.cellsOf 9)) = some x7 at f7
  change DataW.trod _ _ _ _ _ _ _ 4 (([c0, c1, c2, c3, c4, c5, c6, c7, c8].drop 8).take (Tryz.prog.cellsOf 4)) = some x8 at f8
  rw [cellsI8] at f0
  rw [cellsFs] at f1
  rw [cellsStr] at f2 f3 f4 f6 f7
  rw [cellsSs] at f5
  rw [cellsB] at f8
  obtain ⟨z0, h0, _, w0⟩ := DataW.trod_int Tryz.underlying22 f0
  obtain ⟨z2, h2, y2, _⟩ := DataW.trod_string Tryz.underlying9 f2
  obtain ⟨z3, h3, y3, _⟩ := DataW.trod_string Tryz.underlying9 f3
  obtain ⟨z4, h4, y4, _⟩ := DataW.trod_string Tryz.underlying9 f4
  obtain ⟨z6, h6, y6, _⟩ := DataW.trod_string Tryz.underlying9 f6
  obtain ⟨z7, h7, y7, _⟩ := DataW.trod_string Tryz.underlying9 f7
  obtain ⟨z8, h8, _⟩ := DataW.trod_bool Tryz.underlying4 f8
  simp only [List.drop_succ_cons, List.drop_zero, List.take_succ_cons, List.take_zero, List.cons.injEq, and_true] at h0 h2 h3 h4 h6 h7 h8 f1 f5
  rw [hx] at hb
  have hb' : Bnd (.agg [x0.1, x1.1, x2.1, x3.1, x4.1, x5.1, x6.1, x7.1, x8.1]) 26 := hb
  have b2 := bnd_part hb' (j := 2) rfl rfl
  have b3 := bnd_part hb' (j := 3) rfl rfl
  have b4 := bnd_part hb' (j := 4) rfl rfl
  have b6 := bnd_part hb' (j := 6) rfl rfl
  have b7 := bnd_part hb' (j := 7) rfl rfl
  rw [y2] at b2
  rw [y3] at b3
  rw [y4] at b4
  rw [y6] at b6
  rw [y7] at b7
  obtain ⟨ms, hm1, hm2⟩ := open_texts f5 (bnd_part hb' (j := 5) rfl rfl)
  subst h0 h2 h3 h4 h6 h7 h8
  simp only [Lit.wf, Bool.and_eq_true, decide_eq_true_eq] at w0
  have a1 : IntKind.i8.min = -128 := by decide
  have a2 : IntKind.i8.max = 127 := by decide
  rw [a1, a2] at w0
  exact ⟨z0, c1, c5, z2, z3, z4, z6, z7, z8, k, x1, ms, rfl, w0, rfl, f1, bnd_part hb' (j := 1) rfl rfl, hm1, hm2, bnd_str b2, bnd_str b3, bnd_str b4, bnd_str b6, bnd_str b7⟩
/-- nine values that say what stands in a part -/
theorem part_is {W : World} {kd : Int} {ka : Option Addr} {kn kc : Nat} {um : Value} {d v s e r : ByteArray} {b : Bool} {ms : List ByteArray} (hk : -128 ≤ kd ∧ kd ≤ 127) (hm1 : SSl W um ms) (hm2 : sized ms) (z2 : d.size ≤ 281474976710656) (z3 : v.size ≤ 281474976710656) (z4 : s.size ≤ 281474976710656) (z6 : e.size ≤ 281474976710656) (z7 : r.size ≤ 281474976710656) :
    ∃ ma mn mc, um = .slice ma mn mc ∧ FOwn W ⟨kd, ka, kn, kc, d, v, s, ma, mn, mc, e, r, b⟩ ⟨kd, d, v, s, ms, e, r, b⟩ := by
  obtain ⟨ma, mc, rfl, h1, h2, h3⟩ := hm1
  exact ⟨ma, ms.length, mc, rfl, rfl, rfl, rfl, rfl, rfl, rfl, rfl, ⟨z2, z3, z4, z6, z7⟩, ⟨ma, mc, rfl, h1, h2, h3⟩, hm2, hk⟩
theorem open_forest {H : Type} {enc : TypeId × Value → H} {W : World} {sp : Nat → Bool} : ∀ (M n : Nat), n < M → ∀ (u : Value) (x : DataW H × List MemPlace), DataW.trod enc Tryz.prog W 0 sp true n 23 [u] = some x → Bnd x.1 23 →
    ∃ (kids : FT) (ka : Option Addr) (kn kc : Nat), u = .slice ka kn kc ∧ kn = kids.len ∧ kn ≤ kc ∧ kc ≤ maxLen ∧ (kids.len = 0 ∨ ∃ g o, ka = some ⟨g, o, none⟩ ∧ FtCells W kids g o) := by
  intro M
  induction M with
  | zero => exact fun _ h => absurd h (Nat.not_lt_zero _)
  | succ M ih =>
    intro n hn u x h hb
    rcases DataW.trod_slice Tryz.underlying23 h with ⟨h0, _⟩ | ⟨a, len, cap, elems, rest, m, rfl, h0, hx, _, hl, hm, hlen, hel, _, _⟩
    · simp only [List.cons.injEq, and_true] at h0
      subst h0
      exact ⟨.nil, none, 0, 0, rfl, rfl, Nat.le_refl _, Nat.zero_le _, .inl rfl⟩
    · simp only [List.cons.injEq, and_true] at h0
      subst h0
      rw [cellsF] at hel
      have hstep : ∀ i, i < len → ∃ (f : F9) (o : OwnF) (k : FT), FOwn W f o ∧ FKids W f k ∧ ∀ j (hj : j < f.arr.size), W.cell? (a.add (i * 9 + j)) = some f.arr[j] := by
        intro i hi
        have h1 := hel i hi
        rw [List.getElem?_eq_getElem (by omega)] at h1
        obtain ⟨cs, hcs, hcs2⟩ := Option.bind_eq_some_iff.1 h1
        have hbi : Bnd elems[i].1 26 := fun n hn => hb n (by
          rw [hx]
          simp only [DataW.weights, Tryz.underlying23]
          refine List.mem_cons_of_mem _ (List.mem_append_left _ ?_)
          refine weights_all_mem (d := elems[i].1) ?_ hn
          rw [List.mem_map]
          exact ⟨elems[i], List.getElem_mem _, rfl⟩)
        obtain ⟨kd, u, um, d, v, s, e, r, b, m', yk, ms, rfl, hk, rfl, htr, hbk, hm1, hm2, z2, z3, z4, z6, z7⟩ := filter_cells hcs2 hbi
        obtain ⟨k, ka, kn, kc, rfl, q1, q2, q3, q4⟩ := ih m' (by omega) u yk htr hbk
        obtain ⟨ma, mn, mc, rfl, hO⟩ := part_is (ka := ka) (kn := kn) (kc := kc) (b := b) hk hm1 hm2 z2 z3 z4 z6 z7
        refine ⟨_, _, k, hO, ⟨q1, q2, q3, q4⟩, fun j hj => ?_⟩
        have hj' : j < 9 := hj
        have hc := (World.cells?_some hcs).2.2 j hj'
        have hadd : (a.add (i * 9)).add j = a.add (i * 9 + j) := by
          unfold Addr.add
          split <;> split <;> split <;> simp_all <;> omega
        rw [hadd] at hc
        rw [hc]
        exact List.getElem?_eq_getElem hj
      by_cases h0 : len = 0
      · subst h0
        exact ⟨.nil, some a, 0, cap, rfl, rfl, hl, hm, .inl rfl⟩
      have hspot : a.spot = none := by
        obtain ⟨f, o, k, _, _, hc⟩ := hstep 0 (by omega)
        simpa [Addr.add] using World.cell?_spot (hc 0 (by simp [F9.arr]))
      obtain ⟨ab, ao, spot⟩ := a
      simp only at hspot
      subst hspot
      have hall : ∀ (m j : Nat), j + m = len → ∃ y : FT, y.len = m ∧ FtCells W y ab (ao + j * 9) := by
        intro m
        induction m with
        | zero => exact fun j _ => ⟨.nil, rfl, trivial⟩
        | succ m ihm =>
          intro j hj
          obtain ⟨r, hr1, hr2⟩ := ihm (j + 1) (by omega)
          obtain ⟨f, o, k, hO, ⟨q1, q2, q3, q4⟩, hc⟩ := hstep j (by omega)
          simp only [Addr.add_lit] at hc
          refine ⟨.cons o k r, by simp [FT.len, hr1], ⟨f, hO, fun j' hj' => ?_, q1, q2, q3, q4⟩, ?_⟩
          · have := hc j' hj'
            rw [← Nat.add_assoc] at this
            exact this
          · rw [show ao + j * 9 + 9 = ao + (j + 1) * 9 by omega]
            exact hr2
      obtain ⟨y, hy1, hy2⟩ := hall len 0 (by omega)
      exact ⟨y, _, len, cap, rfl, hy1.symm, hl, hm, .inr ⟨ab, ao, rfl, by simpa using hy2⟩⟩
/-- a filter that comes in -/
theorem open_filter {H : Type} {enc : TypeId × Value → H} {W : World} {base : Nat} {v : Value} {d : DataW H} {p : List MemPlace} (hval : Value.okWide Tryz.prog W .any base 26 v) (h : DataW.Trod enc Tryz.prog W 0 (fun _ => true) true 26 v d p) (hb : Bnd d 26) :
    ∃ (f : F9) (a : OwnF) (kids : FT), v = .agg f.arr ∧ FOwn W f a ∧ FKids W f kids := by
  obtain ⟨cs, rfl, hcs⟩ := okWide_struct Tryz.underlying26 hval
  obtain ⟨fuel, hf⟩ := h
  obtain ⟨kd, u, um, d0, v, s, e, r, b, m', yk, ms, ec, hk, rfl, htr, hbk, hm1, hm2, z2, z3, z4, z6, z7⟩ := filter_cells hf hb
  obtain ⟨k, ka, kn, kc, rfl, q1, q2, q3, q4⟩ := open_forest (m' + 1) m' (Nat.lt_succ_self _) u yk htr hbk
  obtain ⟨ma, mn, mc, rfl, hO⟩ := part_is (ka := ka) (kn := kn) (kc := kc) (b := b) hk hm1 hm2 z2 z3 z4 z6 z7
  simp only [Value.cells] at ec
  refine ⟨⟨kd, ka, kn, kc, d0, v, s, ma, mn, mc, e, r, b⟩, ⟨kd, d0, v, s, ms, e, r, b⟩, k, ?_, hO, q1, q2, q3, q4⟩
  have : cs = #[.int .i8 kd, .slice ka kn kc, .string d0, .string v, .string s, .slice ma mn mc, .string e, .string r, .bool b] := by rw [← Array.toList_inj]; exact ec
  rw [this]
  rfl
end Go.Proofs.YtoekmpnnmfaapaaGreatDoor
