/-
  text's writer: what it has; texts are added.
-/
import Derived.Test.YtfkepclgadeeeaaGreatDoorQE
import Derived.Test.YtfkepclgadeeeaaGreatDoorEscape
import Derived.Deep.DeepCutAuto
namespace Go.Proofs.YtfkepclgadeeeaaGreatDoor
open Go.RowKit

/-- blocks below B, and all blocks but R that are no rows of bytes, stand as they stood -/
def WFr (B R : Nat) (w w' : World) : Prop := Below B w w' ∧ Lib.OthersKept 5 (some R) w w'
theorem WFr.refl (B R : Nat) (w : World) : WFr B R w w := ⟨Below.refl _ _, Lib.OthersKept.refl _ _ _⟩
theorem WFr.trans {B R : Nat} {a b c : World} (h : WFr B R a b) (k : WFr B R b c) : WFr B R a c := ⟨h.1.trans k.1, h.2.trans k.2⟩
theorem Fr.wfr {B R : Nat} {a b : World} (h : Fr B a b) : WFr B R a b := ⟨h.1, fun k o hk _ ho => h.2 k o hk (by simp) ho⟩
theorem Ext.wfr {B R : Nat} {a b : World} (h : Ext a b) (hB : B ≤ a.heap.size) : WFr B R a b := ⟨Below.mono h hB, fun k o hk _ _ => by rw [h.block k (Array.getElem?_eq_some_iff.1 hk).1]; exact hk⟩
theorem wfr_set (w : World) {B R : Nat} (hB : B ≤ R) (o : Nat) (u : Value) : WFr B R w (w.setCell ⟨R, o, none⟩ u) :=
  ⟨(Below.refl B w).setCell hB u, fun k ob hk hb _ => by rw [Below.heap_setCell _ _ _ _ (fun e => hb (by rw [e]))]; exact hk⟩
theorem WFr.size {B R : Nat} {a b : World} (h : WFr B R a b) : a.heap.size ≤ b.heap.size := h.1.size
/-- a block of another kind stands -/
theorem WFr.cells {B R : Nat} {a b : World} (h : WFr B R a b) {k : Nat} {c : Array Value} {t : TypeId} {fz : Nat × Nat} (hk : a.heap[k]? = some (.cells c t fz)) (hR : k ≠ R) (ht : t ≠ 5) : b.heap[k]? = some (.cells c t fz) :=
  h.2 k _ hk (by simpa using hR) (fun c' fz' e => ht (by cases e; rfl))

/-- a writer in memory that has the bytes l -/
def WrT (w : World) (R B : Nat) (l : List UInt8) : Prop := B ≤ R ∧ ∃ a c, w.heap[R]? = some (.cells #[.slice a l.length c] 80 (0, 0)) ∧ Own w B (.slice a l.length c) l
theorem Own.shape {w : World} {B : Nat} {v : Value} {l : List UInt8} (h : Own w B v l) : ∃ a c, v = .slice a l.length c := by
  rcases h.2 with ⟨rfl, hl⟩ | ⟨g, cap, cur, rfl, _⟩
  · have : l = [] := List.eq_nil_of_length_eq_zero hl
    subst this; exact ⟨none, 0, rfl⟩
  · exact ⟨_, _, rfl⟩
theorem WrT.ext {w w' : World} {R B : Nat} {l : List UInt8} (h : WrT w R B l) (x : Ext w w') : WrT w' R B l := by
  obtain ⟨hB, a, c, hb, ho⟩ := h
  exact ⟨hB, a, c, (x.block R (Array.getElem?_eq_some_iff.1 hb).1).trans hb, ho.below x⟩
/-- its row is another block than itself -/
theorem Own.setR {w : World} {R B : Nat} {a : Option Addr} {n c : Nat} {l : List UInt8} (h : Own w B (.slice a n c) l) {cs : Array Value} (hR : w.heap[R]? = some (.cells cs 80 (0, 0))) (u : Value) : Own (w.setCell ⟨R, 0, none⟩ u) B (.slice a n c) l := by
  refine ⟨h.1, ?_⟩
  rcases h.2 with h1 | ⟨g, cap, cur, e, h2, hg, h3⟩
  · exact .inl h1
  · refine .inr ⟨g, cap, cur, e, h2, ?_, h3⟩
    rw [Below.heap_setCell _ _ _ _ (fun e => ?_)]
    · exact hg
    · simp only at e
      subst e
      rw [hR] at hg
      cases hg

set_option maxHeartbeats 1000000 in
theorem isFull_any (w : World) (R B : Nat) (l : List UInt8) (h : WrT w R B l) (hl : l.length ≤ 1048576) : Calls Tryz.prog 30 #[.pointer (some ⟨R, 0, none⟩)] w fun e w' => e = .returned (.bool false) ∧ w' = w := by
  obtain ⟨hB, a, c, hb, ho⟩ := h
  have c0 : w.cell? ⟨R, 0, none⟩ = some (.slice a l.length c) := cell_of_row _ _ 0 _ _ _ hb
  have hli : ¬ (1048576 : Int) < (l.length : Int) := by omega
  clear hb ho
  generalize l.length = n at *
  go_enter Tryz.func30, Tryz.ntmps30
  go_wp2
  go_ret
  refine ⟨ret_b ?_, rfl⟩
  first | rfl | (simp; omega)

/-- the bytes of texts -/
def flatB (ts : List ByteArray) : List UInt8 := ts.flatMap byt
theorem flat_take {ts : List ByteArray} {i : Nat} {t : ByteArray} (h : ts[i]? = some t) : flatB (ts.take (i + 1)) = flatB (ts.take i) ++ byt t := by
  unfold flatB; rw [List.take_add_one, h]; simp
theorem flat_le (ts : List ByteArray) (i : Nat) : (flatB (ts.take i)).length ≤ (flatB ts).length := by
  conv => rhs; rw [← List.take_append_drop i ts]
  unfold flatB; rw [List.flatMap_append, List.length_append]; omega

set_option maxRecDepth 100000 in
set_option maxHeartbeats 4000000 in
theorem add_any (w : World) (R B A : Nat) (l : List UInt8) (ts : List ByteArray) (cs : Array Value) (fz : Nat × Nat) (h : WrT w R B l) (hBw : B ≤ w.heap.size) (hA : w.heap[A]? = some (.cells cs 9 fz)) (hcs : ∀ (j : Nat) (t : ByteArray), ts[j]? = some t → cs[j]? = some (Value.string t)) (hl : (l ++ flatB ts).length ≤ 1048576) (n cap : Nat) (hn : Hid (n = ts.length)) (hnb : n ≤ 1000000) :
    Calls Tryz.prog 46 #[.pointer (some ⟨R, 0, none⟩), .slice (some ⟨A, 0, none⟩) n cap] w fun e w' => e = .returned (.tuple #[]) ∧ WrT w' R B (l ++ flatB ts) ∧ WFr B R w w' := by
  have hAR : A ≠ R := by
    rintro rfl
    obtain ⟨_, a, c, hb, _⟩ := h
    rw [hA] at hb
    simp at hb
  have hnl : n ≤ 1048576 ∨ True := .inr trivial
  clear hnl
  go_enter Tryz.func46, Tryz.ntmps46
  go_wp2
  go_loopg [8] n (fun m v wr => ∃ i : Nat, i ≤ n ∧ n - i ≤ m ∧ v = .int .i64 i ∧ wr.heap[A]? = some (.cells cs 9 fz) ∧ Hid (WrT wr R B (l ++ flatB (ts.take i))) ∧ WFr B R w wr)
  case atStart => exact ⟨0, by omega, by omega, rfl, hA, (by rw [List.take_zero]; show WrT w R B (l ++ []); rw [List.append_nil]; exact h), WFr.refl _ _ _⟩
  case round =>
    obtain ⟨i, hi, hm, rfl, hAr, hW, hF⟩ := hrel
    by_cases hlt : i < n
    · have hlti : (i : Int) < (n : Int) := by omega
      have hil : i < ts.length := by have := hn.out; omega
      have hti : Hid (ts[i]? = some ts[i]) := List.getElem?_eq_getElem hil
      have cA : wr.cell? ⟨A, i, none⟩ = some (.string ts[i]) := by rw [cell_of_row _ _ i _ _ _ hAr]; exact hcs i _ hti.out
      have hfl := flat_le ts (i + 1)
      rw [flat_take hti.out, List.length_append] at hfl
      rw [List.length_append] at hl
      have hft : Hid (flatB (ts.take (i + 1)) = flatB (ts.take i) ++ byt ts[i]) := flat_take hti.out
      have hbl := byt_length ts[i]
      generalize ts[i] = t at *
      generalize flatB (ts.take i) = fl at *
      have hIF := isFull_any wr R B (l ++ fl) hW.out (by rw [List.length_append]; omega)
      obtain ⟨hB, a, c, hb, ho⟩ := hW.out
      obtain ⟨nn, hnn⟩ : ∃ nn, Hid (nn = (l ++ fl).length) := ⟨_, rfl⟩
      rw [← hnn.out] at hb ho
      have c0 : wr.cell? ⟨R, 0, none⟩ = some (.slice a nn c) := cell_of_row _ _ 0 _ _ _ hb
      have hBr : B ≤ wr.heap.size := Nat.le_trans hBw hF.size
      have hlen : (l ++ fl).length + t.size ≤ 140737488355328 := by rw [List.length_append]; omega
      obtain ⟨m, rfl⟩ : ∃ m, gk = m + 1 := ⟨gk - 1, by omega⟩
      have hbh : Hid (wr.heap[R]? = some (.cells #[.slice a nn c] 80 (0, 0))) := hb
      have hAh : Hid (wr.heap[A]? = some (.cells cs 9 fz)) := hAr
      clear hb hAr hW hti hl hfl hbl
      go_wp2_with fail
      go_at_call 30
      refine hIF.mono ?_
      rintro _ wr ⟨rfl, rfl⟩
      go_wp2_with (at_builtin; refine Hid.out ?_)
      refine wpList_pushS rfl _ _ rfl B _ (l ++ fl) ho hBr rfl t rfl hlen ?_
      intro v3 w3 ho3 hr3
      obtain ⟨a3, c3, rfl⟩ := ho3.shape
      obtain ⟨n3, hn3⟩ : ∃ n3, Hid (n3 = (l ++ fl ++ byt t).length) := ⟨_, rfl⟩
      rw [← hn3.out] at ho3 ⊢
      have b3 : w3.heap[R]? = some (.cells #[.slice a nn c] 80 (0, 0)) := (hr3.wfr (R := R + 1)).cells hbh.out (by omega) (by decide)
      have k3 : w3.cell? ⟨R, 0, none⟩ = some (.slice a nn c) := cell_of_row _ _ 0 _ _ _ b3
      have z3 : w3.frozen? ⟨R, 0, none⟩ = false := by simp [World.frozen?, b3]
      have b4 := heap_setCell_at w3 R 0 (.slice a3 n3 c3) _ _ _ b3
      have o4 := ho3.setR b3 (.slice a3 n3 c3)
      have F4 : WFr B R w (w3.setCell ⟨R, 0, none⟩ (.slice a3 n3 c3)) := (hF.trans hr3.wfr).trans (wfr_set w3 hB 0 _)
      have A4 := ((hr3.wfr (R := R)).trans (wfr_set w3 hB 0 (.slice a3 n3 c3))).cells hAh.out hAR (by decide)
      go_wp2
      go_roundg m
      case measure => omega
      case rel =>
        refine ⟨i + 1, by omega, by omega, by go_num, A4, ?_, F4⟩
        rw [hft.out, ← List.append_assoc]
        refine ⟨hB, a3, c3, ?_, ?_⟩
        · rw [← hn3.out]; exact b4
        · rw [← hn3.out]; exact o4
    · have hlti : ¬ (i : Int) < (n : Int) := by omega
      have hW2 : WrT wr R B (l ++ flatB ts) := by
        have := hW.out
        rwa [List.take_of_length_le (by have := hn.out; omega)] at this
      clear hW
      go_wp2
      go_end0
      exact ⟨rfl, hW2, hF⟩
end Go.Proofs.YtfkepclgadeeeaaGreatDoor
