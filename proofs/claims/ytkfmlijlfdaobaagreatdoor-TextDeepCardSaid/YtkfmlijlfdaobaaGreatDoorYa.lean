/-
  text's writer, whatever it has: what is added is left out where it is full.
-/
import Derived.Test.YtkfmlijlfdaobaaGreatDoorQK
namespace Go.Proofs.YtkfmlijlfdaobaaGreatDoor
open Go.RowKit

/-- a text is added, if there is room -/
def addP (l t : List UInt8) : List UInt8 := if l.length ≤ 1048576 then l ++ t else l
def addsP (l : List UInt8) (cs : List (List UInt8)) : List UInt8 := cs.foldl addP l
theorem addsP_app (l : List UInt8) (a b : List (List UInt8)) : addsP l (a ++ b) = addsP (addsP l a) b := by unfold addsP; rw [List.foldl_append]
/-- never so long -/
def Fits (l : List UInt8) : Prop := l.length ≤ 1248576
theorem fits_add {l t : List UInt8} (h : Fits l) (ht : t.length ≤ 200000) : Fits (addP l t) := by
  unfold addP Fits at *
  split
  · rw [List.length_append]; omega
  · exact h
theorem fits_adds : ∀ (cs : List (List UInt8)) {l : List UInt8}, Fits l → (∀ t ∈ cs, t.length ≤ 200000) → Fits (addsP l cs)
  | [], _, h, _ => h
  | t :: r, _, h, hr => fits_adds r (fits_add h (hr t (by simp))) (fun u hu => hr u (by simp [hu]))
/-- all there is, if it is not too much -/
theorem adds_le : ∀ (cs : List (List UInt8)) (l : List UInt8), (l ++ cs.flatten).length ≤ 1048576 → addsP l cs = l ++ cs.flatten
  | [], l, _ => by simp [addsP]
  | t :: r, l, h => by
    have e : addP l t = l ++ t := if_pos (by simp only [List.length_append] at h; omega)
    have := adds_le r (addP l t) (by rw [e]; simpa [List.append_assoc] using h)
    show addsP (addP l t) r = _
    rw [this, e]; simp
theorem add_mono (l t : List UInt8) : l.length ≤ (addP l t).length := by
  unfold addP; split
  · simp
  · exact Nat.le_refl _
theorem adds_mono : ∀ (cs : List (List UInt8)) (l : List UInt8), l.length ≤ (addsP l cs).length
  | [], _ => Nat.le_refl _
  | t :: r, l => Nat.le_trans (add_mono l t) (adds_mono r (addP l t))
theorem adds_gt : ∀ (cs : List (List UInt8)) (l : List UInt8), 1048576 < (l ++ cs.flatten).length → 1048576 < (addsP l cs).length
  | [], l, h => by simpa [addsP] using h
  | t :: r, l, h => by
    show 1048576 < (addsP (addP l t) r).length
    by_cases hl : l.length ≤ 1048576
    · have e : addP l t = l ++ t := if_pos hl
      exact adds_gt r (addP l t) (by rw [e]; simpa [List.append_assoc] using h)
    · have := adds_mono r (addP l t)
      have := add_mono l t
      omega

set_option maxHeartbeats 1000000 in
theorem isFullG (w : World) (R B : Nat) (l : List UInt8) (h : WrT w R B l) : Calls Tryz.prog 26 #[.pointer (some ⟨R, 0, none⟩)] w fun e w' => e = .returned (.bool (decide (1048576 < l.length))) ∧ w' = w := by
  obtain ⟨hB, a, c, hb, ho⟩ := h
  have c0 : w.cell? ⟨R, 0, none⟩ = some (.slice a l.length c) := cell_of_row _ _ 0 _ _ _ hb
  clear hb ho
  generalize l.length = n at *
  by_cases hn : 1048576 < n
  · have hli : (1048576 : Int) < (n : Int) := by omega
    rw [decide_eq_true hn]
    go_enter Tryz.func26, Tryz.ntmps26
    go_wp2
    go_ret
    refine ⟨ret_b ?_, rfl⟩
    first | rfl | (simp; omega)
  · have hli : ¬ (1048576 : Int) < (n : Int) := by omega
    rw [decide_eq_false hn]
    go_enter Tryz.func26, Tryz.ntmps26
    go_wp2
    go_ret
    refine ⟨ret_b ?_, rfl⟩
    first | rfl | (simp; omega)

def bytsL (ts : List ByteArray) : List (List UInt8) := ts.map byt
theorem adds_take {ts : List ByteArray} {l : List UInt8} {i : Nat} {t : ByteArray} (h : ts[i]? = some t) : addsP l (bytsL (ts.take (i + 1))) = addP (addsP l (bytsL (ts.take i))) (byt t) := by
  rw [List.take_add_one, h]
  simp [bytsL, addsP]

set_option maxRecDepth 100000 in
set_option maxHeartbeats 4000000 in
theorem addG (w : World) (R B A : Nat) (l : List UInt8) (ts : List ByteArray) (cs : Array Value) (fz : Nat × Nat) (h : WrT w R B l) (hBw : B ≤ w.heap.size) (hA : w.heap[A]? = some (.cells cs 9 fz)) (hcs : ∀ (j : Nat) (t : ByteArray), ts[j]? = some t → cs[j]? = some (Value.string t)) (hl : Fits l) (hts : ∀ t ∈ ts, t.size ≤ 200000) (n cap : Nat) (hn : Hid (n = ts.length)) (hnb : n ≤ 1000000) :
    Calls Tryz.prog 40 #[.pointer (some ⟨R, 0, none⟩), .slice (some ⟨A, 0, none⟩) n cap] w fun e w' => e = .returned (.tuple #[]) ∧ WrT w' R B (addsP l (bytsL ts)) ∧ WFr B R w w' := by
  have hAR : A ≠ R := by
    rintro rfl
    obtain ⟨_, a, c, hb, _⟩ := h
    rw [hA] at hb
    simp at hb
  have hfit : Hid (∀ i, Fits (addsP l (bytsL (ts.take i)))) := fun i => fits_adds _ hl (fun u hu => by
    simp only [bytsL, List.mem_map] at hu
    obtain ⟨t, ht, rfl⟩ := hu
    rw [byt_length]; exact hts t (List.mem_of_mem_take ht))
  have htsh : Hid (∀ t ∈ ts, t.size ≤ 200000) := hts
  clear hts hl
  go_enter Tryz.func40, Tryz.ntmps40
  go_wp2
  go_loopg [8] n (fun m v wr => ∃ i : Nat, i ≤ n ∧ n - i ≤ m ∧ v = .int .i64 i ∧ wr.heap[A]? = some (.cells cs 9 fz) ∧ Hid (WrT wr R B (addsP l (bytsL (ts.take i)))) ∧ WFr B R w wr)
  case atStart => exact ⟨0, by omega, by omega, rfl, hA, (by rw [List.take_zero]; exact h), WFr.refl _ _ _⟩
  case round =>
    obtain ⟨i, hi, hm, rfl, hAr, hW, hF⟩ := hrel
    by_cases hlt : i < n
    · have hlti : (i : Int) < (n : Int) := by omega
      have hil : i < ts.length := by have := hn.out; omega
      have hti : Hid (ts[i]? = some ts[i]) := List.getElem?_eq_getElem hil
      have hsz := htsh.out _ (List.getElem_mem hil)
      have cA : wr.cell? ⟨A, i, none⟩ = some (.string ts[i]) := by rw [cell_of_row _ _ i _ _ _ hAr]; exact hcs i _ hti.out
      have hft : Hid (addsP l (bytsL (ts.take (i + 1))) = addP (addsP l (bytsL (ts.take i))) (byt ts[i])) := adds_take hti.out
      have hfi := hfit.out i
      generalize ts[i] = t at *
      generalize addsP l (bytsL (ts.take i)) = fl at *
      have hIF := isFullG wr R B fl hW.out
      obtain ⟨hB, a, c, hb, ho⟩ := hW.out
      have hBr : B ≤ wr.heap.size := Nat.le_trans hBw hF.size
      have hlen : fl.length + t.size ≤ 140737488355328 := by unfold Fits at hfi; omega
      have hWh := hW
      obtain ⟨nn, hnn⟩ : ∃ nn, Hid (nn = fl.length) := ⟨_, rfl⟩
      rw [← hnn.out] at hb ho
      have c0 : wr.cell? ⟨R, 0, none⟩ = some (.slice a nn c) := cell_of_row _ _ 0 _ _ _ hb
      obtain ⟨m, rfl⟩ : ∃ m, gk = m + 1 := ⟨gk - 1, by omega⟩
      have hbh : Hid (wr.heap[R]? = some (.cells #[.slice a nn c] 69 (0, 0))) := hb
      have hAh : Hid (wr.heap[A]? = some (.cells cs 9 fz)) := hAr
      clear hb hAr hW hti hfi
      by_cases hfull : 1048576 < fl.length
      · rw [decide_eq_true hfull] at hIF
        have hft2 : Hid (addsP l (bytsL (ts.take (i + 1))) = fl) := by show _ = _; rw [hft.out]; exact if_neg (by omega)
        clear hft hfull
        go_wp2_with fail
        go_at_call 26
        refine hIF.mono ?_
        rintro _ wr ⟨rfl, rfl⟩
        go_wp2
        go_roundg m
        case measure => omega
        case rel => exact ⟨i + 1, by omega, by omega, by go_num, hAh.out, by rw [hft2.out]; exact hWh, hF⟩
      · rw [decide_eq_false hfull] at hIF
        have hft2 : Hid (addsP l (bytsL (ts.take (i + 1))) = fl ++ byt t) := by show _ = _; rw [hft.out]; exact if_pos (by omega)
        clear hft hfull hWh
        go_wp2_with fail
        go_at_call 26
        refine hIF.mono ?_
        rintro _ wr ⟨rfl, rfl⟩
        go_wp2_with (at_builtin; refine Hid.out ?_)
        refine wpList_pushS rfl _ _ rfl B _ fl ho hBr rfl t rfl hlen ?_
        intro v3 w3 ho3 hr3
        obtain ⟨a3, c3, rfl⟩ := ho3.shape
        obtain ⟨n3, hn3⟩ : ∃ n3, Hid (n3 = (fl ++ byt t).length) := ⟨_, rfl⟩
        rw [← hn3.out] at ho3 ⊢
        have b3 : w3.heap[R]? = some (.cells #[.slice a nn c] 69 (0, 0)) := (hr3.wfr (R := R + 1)).cells hbh.out (by omega) (by decide)
        have k3 : w3.cell? ⟨R, 0, none⟩ = some (.slice a nn c) := cell_of_row _ _ 0 _ _ _ b3
        have z3 : w3.frozen? ⟨R, 0, none⟩ = false := by simp [World.frozen?, b3]
        have b4 := heap_setCell_at w3 R 0 (.slice a3 n3 c3) _ _ _ b3
        have o4 := ho3.setR b3 (.slice a3 n3 c3)
        have F4 : WFr B R w (w3.setCell ⟨R, 0, none⟩ (.slice a3 n3 c3)) := (hF.trans hr3.wfr).trans (wfr_set w3 hB 0 _)
        have A4 := ((hr3.wfr (R := R)).trans (wfr_set w3 hB 0 (.slice a3 n3 c3))).cells hAh.out hAR (by decide)
        go_wp2
        go_roundg m
        case measure => omega
        case rel =>
          refine ⟨i + 1, by omega, by omega, by go_num, A4, ?_, F4⟩
          rw [hft2.out]
          refine ⟨hB, a3, c3, ?_, ?_⟩
          · rw [← hn3.out]; exact b4
          · rw [← hn3.out]; exact o4
    · have hlti : ¬ (i : Int) < (n : Int) := by omega
      have hW2 : WrT wr R B (addsP l (bytsL ts)) := by
        have := hW.out
        rwa [List.take_of_length_le (by have := hn.out; omega)] at this
      clear hW
      go_wp2
      go_end0
      exact ⟨rfl, hW2, hF⟩
/-- one text is added -/
theorem add1G (w : World) (R B : Nat) (l : List UInt8) (t : ByteArray) (h : WrT w R B l) (hBw : B ≤ w.heap.size) (hl : Fits l) (ht : t.size ≤ 200000) :
    Calls Tryz.prog 40 #[.pointer (some ⟨R, 0, none⟩), .slice (some ⟨w.heap.size, 0, none⟩) 1 1] (w.alloc (.cells #[.string t] 9)) fun e w' => e = .returned (.tuple #[]) ∧ WrT w' R B (addP l (byt t)) ∧ WFr B R w w' := by
  have x := (Ext.refl w).alloc (.cells #[.string t] 9)
  exact (addG (w.alloc (.cells #[.string t] 9)) R B w.heap.size l [t] #[.string t] (0, 0) (h.ext x) (Nat.le_trans hBw x.size) (heap_alloc_new _ _) (fun j u hu => by
    cases j with
    | zero => simp at hu; subst hu; rfl
    | succ j => simp at hu) hl (by simpa using ht) 1 1 rfl (by omega)).mono fun _ _ h => ⟨h.1, h.2.1, (x.wfr hBw).trans h.2.2⟩
/-- two texts are added -/
theorem add2G (w : World) (R B : Nat) (l : List UInt8) (t u : ByteArray) (h : WrT w R B l) (hBw : B ≤ w.heap.size) (hl : Fits l) (ht : t.size ≤ 200000) (hu : u.size ≤ 200000) :
    Calls Tryz.prog 40 #[.pointer (some ⟨R, 0, none⟩), .slice (some ⟨w.heap.size, 0, none⟩) 2 2] (w.alloc (.cells #[.string t, .string u] 9)) fun e w' => e = .returned (.tuple #[]) ∧ WrT w' R B (addP (addP l (byt t)) (byt u)) ∧ WFr B R w w' := by
  have x := (Ext.refl w).alloc (.cells #[.string t, .string u] 9)
  exact (addG (w.alloc (.cells #[.string t, .string u] 9)) R B w.heap.size l [t, u] #[.string t, .string u] (0, 0) (h.ext x) (Nat.le_trans hBw x.size) (heap_alloc_new _ _) (fun j z hz => by
    match j with
    | 0 => simp at hz; subst hz; rfl
    | 1 => simp at hz; subst hz; rfl
    | j + 2 => simp at hz) hl (by intro z hz; simp at hz; rcases hz with rfl | rfl <;> assumption) 2 2 rfl (by omega)).mono fun _ _ h => ⟨h.1, h.2.1, (x.wfr hBw).trans h.2.2⟩

set_option maxHeartbeats 1000000 in
theorem valueG (w : World) (R B : Nat) (l : List UInt8) (s : ByteArray) (h : WrT w R B l) (hBw : B ≤ w.heap.size) (g off cap : Nat) (ht : Tab w g off cap) (hs : s.size ≤ 65536) (he : (escL (byt s)).length ≤ 200000) (hl : Fits l) :
    Calls Tryz.prog 60 #[.pointer (some ⟨R, 0, none⟩), .string s] w fun e w' => e = .returned (.tuple #[]) ∧ WrT w' R B (addP l (escL (byt s))) ∧ WFr B R w w' := by
  have hF := isFullG w R B l h
  by_cases hfull : 1048576 < l.length
  · rw [decide_eq_true hfull] at hF
    have hY : Hid (addP l (escL (byt s)) = l) := if_neg (by omega)
    rw [hY.out]
    clear hfull he
    go_enter Tryz.func60, Tryz.ntmps60
    go_wp2_with fail
    go_at_call 26
    refine hF.mono ?_
    rintro _ w ⟨rfl, rfl⟩
    go_wp2
    go_end0
    exact ⟨rfl, h, WFr.refl _ _ _⟩
  · rw [decide_eq_false hfull] at hF
    have hE := Escape_any w g off cap ht s (by omega)
    clear hfull
    go_enter Tryz.func60, Tryz.ntmps60
    go_wp2_with fail
    go_at_call 26
    refine hF.mono ?_
    rintro _ w ⟨rfl, rfl⟩
    go_wp2_with fail
    go_at_call 72
    refine hE.mono ?_
    rintro _ w1 ⟨rfl, f1⟩
    have x1 : Ext w w1 := f1.1
    have hA := add1G w1 R B l (str (escL (byt s))) (h.ext x1) (Nat.le_trans hBw x1.size) hl (by rw [← byt_length, byt_str]; exact he)
    rw [byt_str] at hA
    generalize str (escL (byt s)) = es at hA ⊢
    go_wp2_with fail
    go_at_call 40
    refine hA.mono ?_
    rintro _ w2 ⟨rfl, h2, f2⟩
    go_wp2
    go_end0
    exact ⟨rfl, h2, (x1.wfr hBw).trans f2⟩
end Go.Proofs.YtkfmlijlfdaobaaGreatDoor
