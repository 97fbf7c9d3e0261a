/-
  Add: the sum of two numbers, as it is written.
-/
import Derived.Test.YtimjmecogbkgfaaGreatDoorPlusO
namespace Go.Proofs.YtimjmecogbkgfaaGreatDoor
open Go.RowKit

set_option maxRecDepth 100000 in
theorem text_any (w : World) (x : Bool × List UInt8) (hx : x.2.length ≤ 1000000) :
    Calls Tryz.prog 35 #[numVal x] w fun e w' => e = .returned (.string (str (textN x))) ∧ Fr w.heap.size w w' := by
  obtain ⟨b, d⟩ := x
  simp only at hx
  obtain ⟨D, hD⟩ : ∃ D, Hid (D = str d) := ⟨str d, rfl⟩
  have hs : D.size ≤ 1000000 := by rw [hD.out, str_size]; exact hx
  have HR : Hid (str (45 :: d) = (⟨#[45]⟩ : ByteArray) ++ D) := by
    show _ = _
    rw [hD.out]
    apply ByteArray.ext
    simp [str]
  simp only [numVal]
  rw [← hD.out]
  cases b with
  | false =>
    go_enter Tryz.func35, Tryz.ntmps35
    go_wp2
    go_ret
    exact ⟨ret_s hD.out, Fr.one _⟩
  | true =>
    go_enter Tryz.func35, Tryz.ntmps35
    go_wp2
    go_ret
    exact ⟨ret_s HR.out.symm, Fr.one _⟩
theorem numL_ok {l : List UInt8} {x : Bool × List UInt8} (h : numL l = some x) : okNum x := by
  obtain ⟨h1, h2, h3, h4, _⟩ := numL_some h
  exact ⟨h1, h2, by omega⟩
theorem numAns_some (x : Bool × List UInt8) : numAns (some x) = .tuple #[numVal x, .bool true] := rfl
theorem plusN_len (x y : Bool × List UInt8) (hx : okNum x) (hy : okNum y) (K : Nat) (h3 : x.2.length ≤ K) (g3 : y.2.length ≤ K) : (plusN x y).2.length ≤ K + 1 := by
  have a1 := digV_lt x.2 ((isCnt_iff x.2).1 hx.1).1
  have b1 := digV_lt y.2 ((isCnt_iff y.2).1 hy.1).1
  have a2 : 10 ^ x.2.length ≤ 10 ^ K := Nat.pow_le_pow_right (by omega) h3
  have b2 : 10 ^ y.2.length ≤ 10 ^ K := Nat.pow_le_pow_right (by omega) g3
  have hp : 10 ^ (K + 1) = 10 ^ K * 10 := Nat.pow_succ _ _
  have key : ∀ n, n < 10 ^ (K + 1) → (showN n).length ≤ K + 1 := fun n h => show_len n (K + 1) h (by omega)
  generalize 10 ^ K = P at *
  generalize 10 ^ (K + 1) = Q at *
  unfold plusN
  split
  · exact key _ (by omega)
  · split
    · exact key _ (by omega)
    · exact key _ (by omega)
set_option maxRecDepth 100000 in
set_option maxHeartbeats 2000000 in
theorem Add_any (w : World) (a b : ByteArray) (ha : a.size ≤ 140737488355328) (hb : b.size ≤ 140737488355328) :
    Calls Tryz.prog 14 #[.string a, .string b] w fun e w' => e = .returned (ans (addL (byt a) (byt b))) ∧ Fr w.heap.size w w' := by
  have hna := fun w => numberOf_any w a ha
  have hnb := fun w => numberOf_any w b hb
  cases hx : numL (byt a) with
  | none =>
    have HN : Hid (addL (byt a) (byt b) = none) := by show addL _ _ = none; unfold addL; rw [hx]
    rw [hx] at hna
    cases hy : numL (byt b) with
    | none =>
      rw [hy] at hnb
      have mk : True := trivial
      go_enter Tryz.func14, Tryz.ntmps14
      go_wp2_with (first
        | (go_at_call 33; clear mk; refine (hna _).mono ?_; rintro e w2 ⟨rfl, hf2⟩; simp only [numAns])
        | (go_at_call 33; refine (hnb _).mono ?_; rintro e w3 ⟨rfl, hf3⟩; simp only [numAns]))
      go_ret2
      exact ⟨ret_none HN.out, ((hf2.then (Fr.one _)).then hf3).then (Fr.one _)⟩
    | some y =>
      rw [hy] at hnb
      have mk : True := trivial
      go_enter Tryz.func14, Tryz.ntmps14
      go_wp2_with (first
        | (go_at_call 33; clear mk; refine (hna _).mono ?_; rintro e w2 ⟨rfl, hf2⟩; simp only [numAns])
        | (go_at_call 33; refine (hnb _).mono ?_; rintro e w3 ⟨rfl, hf3⟩; simp only [numAns]))
      go_ret2
      exact ⟨ret_none HN.out, ((hf2.then (Fr.one _)).then hf3).then (Fr.one _)⟩
  | some x =>
    rw [hx] at hna
    cases hy : numL (byt b) with
    | none =>
      have HN : Hid (addL (byt a) (byt b) = none) := by show addL _ _ = none; unfold addL; rw [hx, hy]
      rw [hy] at hnb
      have mk : True := trivial
      go_enter Tryz.func14, Tryz.ntmps14
      go_wp2_with (first
        | (go_at_call 33; clear mk; refine (hna _).mono ?_; rintro e w2 ⟨rfl, hf2⟩; simp only [numAns])
        | (go_at_call 33; refine (hnb _).mono ?_; rintro e w3 ⟨rfl, hf3⟩; simp only [numAns]))
      go_ret2
      exact ⟨ret_none HN.out, ((hf2.then (Fr.one _)).then hf3).then (Fr.one _)⟩
    | some y =>
      rw [hy] at hnb
      have ox := numL_ok hx
      have oy := numL_ok hy
      have hpl := plusN_len x y ox oy 65536 ox.2.2 oy.2.2
      have HT : Hid _ := text_plus x y ox oy
      have HA : Hid (addL (byt a) (byt b) = if (textN (plusN x y)).length ≤ 65536 then some (textN (plusN x y)) else none) := by
        show addL _ _ = _
        rw [HT.out]; unfold addL; rw [hx, hy]
      have hpp := fun w => plus_any w x y ox oy
      have hxt := fun w => text_any w (plusN x y) (by omega)
      obtain ⟨bx, dx⟩ := x
      obtain ⟨b2, dy⟩ := y
      obtain ⟨T, hT⟩ : ∃ T, Hid (T = str (textN (plusN (bx, dx) (b2, dy)))) := ⟨str (textN (plusN (bx, dx) (b2, dy))), rfl⟩
      have hTs : (textN (plusN (bx, dx) (b2, dy))).length = T.size := by rw [hT.out, str_size]
      rw [hTs] at HA
      simp only [numVal] at hpp hxt
      generalize plusN (bx, dx) (b2, dy) = pl at *
      clear ox oy hx hy
      by_cases hsz : T.size ≤ 65536
      · have hsz' : ¬ (65536 : Int) < (T.size : Int) := by omega
        have mk : True := trivial
        go_enter Tryz.func14, Tryz.ntmps14
        go_wp2_with (first
          | (go_at_call 33; clear mk; refine (hna _).mono ?_; rintro e w2 ⟨rfl, hf2⟩; simp only [numAns])
          | (go_at_call 33; refine (hnb _).mono ?_; rintro e w3 ⟨rfl, hf3⟩; simp only [numAns]; have hcx : ∀ o, (w3.alloc o).cell? ⟨w2.heap.size, 0, none⟩ = some (.bool bx) := fun o => ((hf3.then (Fr.one o)).1.cell (p := ⟨w2.heap.size, 0, none⟩) (by simp)).trans (heap_cellN (heap_alloc_new w2 _) 0); have hcy : ∀ o, (w3.alloc o).cell? ⟨w2.heap.size, 1, none⟩ = some (.string (str dx)) := fun o => ((hf3.then (Fr.one o)).1.cell (p := ⟨w2.heap.size, 1, none⟩) (by simp)).trans (heap_cellN (heap_alloc_new w2 _) 1))
          | (go_at_call 34; refine (hpp _).mono ?_; rintro e w4 ⟨rfl, hf4⟩)
          | (go_at_call 35; refine (hxt _).mono ?_; rintro e w5 ⟨rfl, hf5⟩; rw [← hT.out]))
        go_ret2
        exact ⟨ret_some (by rw [HA.out, if_pos hsz]) hT.out, ((((hf2.then (Fr.one _)).then hf3).then (Fr.one _)).then hf4).then hf5⟩
      · have hsz' : (65536 : Int) < (T.size : Int) := by omega
        have mk : True := trivial
        go_enter Tryz.func14, Tryz.ntmps14
        go_wp2_with (first
          | (go_at_call 33; clear mk; refine (hna _).mono ?_; rintro e w2 ⟨rfl, hf2⟩; simp only [numAns])
          | (go_at_call 33; refine (hnb _).mono ?_; rintro e w3 ⟨rfl, hf3⟩; simp only [numAns]; have hcx : ∀ o, (w3.alloc o).cell? ⟨w2.heap.size, 0, none⟩ = some (.bool bx) := fun o => ((hf3.then (Fr.one o)).1.cell (p := ⟨w2.heap.size, 0, none⟩) (by simp)).trans (heap_cellN (heap_alloc_new w2 _) 0); have hcy : ∀ o, (w3.alloc o).cell? ⟨w2.heap.size, 1, none⟩ = some (.string (str dx)) := fun o => ((hf3.then (Fr.one o)).1.cell (p := ⟨w2.heap.size, 1, none⟩) (by simp)).trans (heap_cellN (heap_alloc_new w2 _) 1))
          | (go_at_call 34; refine (hpp _).mono ?_; rintro e w4 ⟨rfl, hf4⟩)
          | (go_at_call 35; refine (hxt _).mono ?_; rintro e w5 ⟨rfl, hf5⟩; rw [← hT.out]))
        go_ret2
        exact ⟨ret_none (by rw [HA.out, if_neg hsz]), ((((hf2.then (Fr.one _)).then hf3).then (Fr.one _)).then hf4).then hf5⟩
end Go.Proofs.YtimjmecogbkgfaaGreatDoor
