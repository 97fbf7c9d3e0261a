/-
  name.Print.
-/
import Derived.Test.YtfiijlmpfpmgiaaGreatDoorNap
namespace Go.Proofs.YtfiijlmpfpmgiaaGreatDoor
open Go.RowKit

section
variable (dz : List UInt8 → Nat)
/-- the pairs of one part, written behind out; none: too long -/
def avsGo : List UInt8 → Bool → List Av → Option (List UInt8)
  | out, _, [] => some out
  | out, first, a :: r =>
    if 65536 ≤ (if first then out else out ++ [43]).length + a.t.size + a.v.size then none else avsGo ((if first then out else out ++ [43]) ++ pairL dz a) false r
def ptsGo : List UInt8 → Bool → List (List Av) → Option (List UInt8)
  | out, _, [] => some out
  | out, first, l :: r => match avsGo dz (if first then out else out ++ [44]) true l with
    | none => none
    | some o => ptsGo o false r
/-- what Print answers -/
def printP (pts : List (List Av)) : List UInt8 × Int :=
  if checkN pts ≠ 0 then ([], checkN pts) else match ptsGo dz [] true pts with
    | none => ([], 3)
    | some o => if 65536 < o.length then ([], 3) else (o, 0)
end
theorem NmIn.at {w : World} {a : Option Addr} {n c : Nat} {us : List Value} {pts : List (List Av)} (h : NmIn w (.slice a n c) us pts) (k : Nat) (hk : k < pts.length) : ∃ g o ua un uc, a = some ⟨g, o, none⟩ ∧ w.cell? ⟨g, o + k, none⟩ = some (.slice ua un uc) ∧ AvSl w (.slice ua un uc) pts[k] ∧ Hid (un = pts[k].length) := by
  have hku : k < us.length := by rw [h.len]; exact hk
  obtain ⟨g, o, e, hc⟩ := h.sl.at k hku
  have hp := h.pts k hku hk
  obtain ⟨ua, un, uc, hu, hun, _⟩ := hp.shape
  refine ⟨g, o, ua, un, uc, e, ?_, ?_, hun⟩
  · rw [hc, ← hu]; rfl
  · rw [← hu]; exact hp
theorem drop_cons6 {α : Type} (l : List α) (k : Nat) (h : k < l.length) : l.drop k = l[k] :: l.drop (k + 1) := List.drop_eq_getElem_cons h
theorem check_zero {pts : List (List Av)} (h : checkN pts = 0) : pts.length ≤ 64 ∧ ∀ l ∈ pts, l.length ≤ 8 := by
  unfold checkN at h
  split at h
  · cases h
  · split at h
    · rename_i h1 h2
      refine ⟨by omega, fun l hl => ?_⟩
      simpa using List.all_eq_true.1 h2 l hl
    · cases h
theorem wpList_pushH {ops : Array Oper} {rest : List Oper} {o : Oper} {a : Act} {Q : Exit → Act → World → Prop} (hgd : o.guard = none) (s x : Operand)
    (ho : o.op = .call { callee := .builtin .append, args := #[s, x], argTypes := #[67, 67] })
    (w0 : World) (B : Nat) (v : Value) (l m : List UInt8) (cs : Array Value) (hown : Own w0 B v l) (hB : B ≤ w0.heap.size) (hs : a.eval s = v) (n c H : Nat) (hH : w0.heap.size = H)
    (hx : a.eval x = .slice (some ⟨H, 0, none⟩) n c) (hn : n = m.length) (hcs : cs = (m.map B8).toArray) (hlen : l.length + m.length ≤ 140737488355328)
    (h : ∀ v' w', Own w' B v' (l ++ m) → Fr B w0 w' → wpList Tryz.prog ops Q rest (a.put o.dst v') w') :
    wpList Tryz.prog ops Q (o :: rest) a (w0.alloc (.cells cs 5)) := by
  subst hH
  exact wpList_push hgd s x ho w0 B v l m cs hown hB hs n c hx hn hcs hlen h
theorem own_shape {w : World} {B : Nat} {v : Value} {l : List UInt8} (h : Own w B v l) : ∃ a c, v = .slice a l.length c := by
  rcases h.2 with ⟨rfl, hl⟩ | ⟨g', cap, cur, rfl, _⟩
  · rw [hl]; exact ⟨_, _, rfl⟩
  · exact ⟨_, _, rfl⟩
theorem boxed {w w1 : World} {v : Value} {t : TypeId} (hb : (w.alloc (.cells #[v] t)).heap[w.heap.size]? = some (.cells #[v] t (0, 0))) (x : Ext (w.alloc (.cells #[v] t)) w1) : w1.cell? ⟨w.heap.size, 0, none⟩ = some v := by
  have := (x.block _ (by simp)).trans hb
  simpa using cell_of_row _ _ 0 _ _ _ this
set_option maxRecDepth 100000 in
set_option maxHeartbeats 4000000 in
theorem Print_any (w : World) (qv : Value) (us : List Value) (pts : List (List Av)) (hv : NmIn w qv us pts) (hf : ∀ l ∈ pts, Fits l) (g off cap : Nat) (ht : Tab w g off cap)
    (dz : List UInt8 → Nat) (hz : DzOk dz) (hd : ∀ l ∈ pts, ∀ a ∈ l, ∀ k, k < a.v.size → DecAt (a.v.extract k a.v.size) (dz ((byt a.v).drop k))) :
    Calls Tryz.prog 16 #[.agg #[qv]] w fun e w' => e = .returned (.tuple #[.string (str (printP dz pts).1), .int .i64 (printP dz pts).2]) ∧ Ext w w' := by
  have hsl := hv.sl
  obtain ⟨a, n, c, rfl, hn⟩ := hsl.shape
  have hb0 := heap_alloc_new w (.cells #[.slice a n c] 24)
  have hnp : Hid (n = pts.length) := by show _ = _; rw [← hv.len]; exact hn.out
  have hx0 := (Ext.refl w).alloc (.cells #[.slice a n c] 24)
  have hch := check_any _ _ us pts (hv.ext hx0) hf
  obtain ⟨hlen0, hnc, hnm⟩ := hsl.len
  clear hlen0 hsl
  obtain ⟨ck, hck⟩ : ∃ ck, ck = checkN pts := ⟨_, rfl⟩
  rw [← hck] at hch
  have hckh : Hid (ck = checkN pts) := hck
  clear hck
  by_cases h0 : ck = 0
  · have hgo : Hid (printP dz pts = match ptsGo dz [] true pts with | none => ([], 3) | some o => if 65536 < o.length then ([], 3) else (o, 0)) := by
      show _ = _
      unfold printP
      rw [if_neg (by rw [← hckh.out, h0]; simp)]
    subst h0
    go_enter Tryz.func16, Tryz.ntmps16
    go_wp2_with (go_at_call 38; refine hch.mono ?_; rintro _ w1 ⟨rfl, x1⟩; have hcb : w1.cell? ⟨w.heap.size, 0, none⟩ = some (.slice a n c) := boxed hb0 x1)
    have H8 : Hid (pts.length ≤ 64 ∧ ∀ l ∈ pts, l.length ≤ 8) := check_zero hckh.out.symm
    have hn64 : n ≤ 64 := by rw [hnp.out]; exact H8.out.1
    have hx1 : Ext w w1 := hx0.trans x1
    go_loopw [5, 18] (fun x i wr => ∃ (k : Nat) (acc : List UInt8), k ≤ n ∧ i = .int .i64 k ∧ Own wr w.heap.size x acc ∧ Hid (ptsGo dz acc (decide (k = 0)) (pts.drop k) = ptsGo dz [] true pts) ∧ acc.length ≤ 200000 + k ∧ Ext w wr) (fun _ i _ => n - (intOf i).toNat)
    case atStart => exact ⟨0, [], Nat.zero_le _, rfl, World.ownsRow_nil _ _ _ _, rfl, by simp, hx1⟩
    case round =>
      obtain ⟨k, acc, hk, rfl, ho, HI, hla, hx⟩ := hrel
      clear hx1 hcb
      by_cases hlt : k < n
      · have hlt' : (k : Int) < (n : Int) := by omega
        have hkp : k < pts.length := by rw [← hnp.out]; exact hlt
        obtain ⟨g3, o3, ua, un, uc, rfl, e0, hav0, hun⟩ := (hv.ext hx).at k hkp
        have hav : AvSl w (.slice ua un uc) pts[k] := by
          obtain ⟨g4, o4, ua4, un4, uc4, e1, e2, h4, _⟩ := hv.at k hkp
          cases e1
          have := hx.cell e2
          rw [e0] at this
          cases this
          exact h4
        clear hav0
        have hun8 : un ≤ 8 := by rw [hun.out]; exact H8.out.2 _ (List.getElem_mem hkp)
        have hdr := drop_cons6 pts k hkp
        have hnu : un ≤ uc := by obtain ⟨a', n', c', e, _, h⟩ := hav.shape; cases e; exact h
        rw [hdr] at HI
        by_cases hk0 : k = 0
        · have hk0' : ¬ (0 : Int) < (k : Int) := by omega
          have HP : Hid (avsGo dz acc true pts[k] = none → printP dz pts = ([], 3)) := by
            intro h
            have := HI.out
            rw [decide_eq_true hk0] at this
            simp only [ptsGo, if_true, h] at this
            rw [hgo.out, ← this]
          have HQ : Hid ((match avsGo dz acc true pts[k] with | none => none | some o => ptsGo dz o false (pts.drop (k + 1))) = ptsGo dz [] true pts) := by
            have := HI.out
            rw [decide_eq_true hk0] at this
            simp only [ptsGo, if_true] at this
            exact this
          have hk0h : Hid (k = 0) := hk0
          clear HI hdr hk0
          go_wp2
          go_loopw [5, 31] (fun x i wr => ∃ (j : Nat) (acc' : List UInt8), j ≤ un ∧ i = .int .i64 j ∧ Own wr w.heap.size x acc' ∧ Hid (avsGo dz acc' (decide (j = 0)) (pts[k].drop j) = avsGo dz acc true pts[k]) ∧ acc'.length ≤ 200001 + k ∧ Ext w wr) (fun _ i _ => un - (intOf i).toNat)
          case atStart => exact ⟨0, _, Nat.zero_le _, rfl, (ho.alloc _), rfl, (by omega), (hx.alloc _)⟩
          case round =>
            obtain ⟨j, acc2, hj, rfl, ho4, HI2, hl4, hx4⟩ := hrel
            obtain ⟨sa, sc, hse⟩ := own_shape ho4
            subst hse
            by_cases hlt2 : j < un
            · have hlt3 : j < un := hlt2
              have hlt2' : (j : Int) < (un : Int) := by omega
              have hjp : j < pts[k].length := by rw [← hun.out]; exact hlt2
              obtain ⟨g5, o5, rfl, e5, e6⟩ := (hav.ext hx4).at j hjp
              have hmem : pts[k][j] ∈ pts[k] := List.getElem_mem hjp
              have hkm : pts[k] ∈ pts := List.getElem_mem hkp
              have hfx := hf _ hkm _ hmem
              have hdx := hd _ hkm _ hmem
              have hst := drop_cons6 pts[k] j hjp
              obtain ⟨x, hx⟩ : ∃ x, x = pts[k][j] := ⟨_, rfl⟩
              rw [← hx] at e5 e6 hfx hdx hst
              obtain ⟨tx, vx⟩ := x
              simp only at e5 e6 hfx hdx
              clear hx hmem hkm
              obtain ⟨hfx1, hfx2⟩ := hfx
              have hpl : vx.size < 65536 → (pairL dz ⟨tx, vx⟩).length ≤ tx.size + 1 + 3 * vx.size := by
                intro _
                have h9 := valGo_len hz (byt vx).length (byt vx) true
                have e9 : (pairL dz ⟨tx, vx⟩).length = tx.size + 1 + (valGo dz (byt vx).length true (byt vx)).length := by simp [pairL, valL, byt_length]; omega
                rw [byt_length] at h9
                rw [e9, byt_length]
                omega
              have hap := fun W v acc (ho : Own W w.heap.size v acc) (hs : w.heap.size ≤ W.heap.size) (hxx : Ext w W) (q1 : tx.size ≤ 1000000000) (q2 : vx.size ≤ 1000000000) (q3 : acc.length ≤ 1000000000) => appendPair_any w W w.heap.size v acc ho hs (Nat.le_refl _) hxx g off cap ht ⟨tx, vx⟩ q1 q2 q3 dz hz hdx
              simp only at hap
              clear hdx e0
              rw [hst] at HI2
              by_cases hj0 : j = 0
              · have hj0' : ¬ (0 : Int) < (j : Int) := by omega
                have HN : Hid (65536 ≤ acc2.length + tx.size + vx.size → printP dz pts = ([], 3)) := by
                  intro hbig
                  have := HI2.out
                  rw [decide_eq_true hj0] at this
                  simp only [avsGo, if_true] at this
                  rw [if_pos hbig] at this
                  exact HP.out this.symm
                have HY : Hid (¬ 65536 ≤ acc2.length + tx.size + vx.size → avsGo dz (acc2 ++ pairL dz ⟨tx, vx⟩) (decide (j + 1 = 0)) (pts[k].drop (j + 1)) = avsGo dz acc true pts[k]) := by
                  intro hbig
                  have := HI2.out
                  rw [decide_eq_true hj0] at this
                  simp only [avsGo, if_true] at this
                  rw [if_neg hbig] at this
                  rw [decide_eq_false (by omega)]
                  exact this
                have hj0h : Hid (j = 0) := hj0
                clear hj0 HI2 hst
                by_cases hbig : 65536 ≤ (acc2).length + tx.size + vx.size
                · have hbig' : (65536 : Int) ≤ ((acc2).length : Int) + (tx.size : Int) + (vx.size : Int) := by omega
                  have hr : Hid (printP dz pts = ([], 3)) := HN.out hbig
                  clear hap
                  go_wp2
                  go_ret2
                  exact ⟨by rw [hr.out]; rfl, (hx4.alloc _)⟩
                · have hbig' : ¬ (65536 : Int) ≤ ((acc2).length : Int) + (tx.size : Int) + (vx.size : Int) := by omega
                  have hap2 := hap (wr.alloc (.cells #[.string tx, .string vx] 48)) _ _ (ho4.alloc _) (by have := hx4.size; simp only [World.size_alloc]; omega) (hx4.alloc _) (by omega) (by omega) (by omega)
                  clear hap
                  go_wp2_with (go_at_call 39; refine hap2.mono ?_; rintro _ w8 ⟨v8, rfl, ho8, hf8⟩)
                  go_roundw
                  · refine ⟨j + 1, _, hlt3, by go_num, ho8, HY.out hbig, ?_, Below.trans (hx4.alloc _) hf8.1⟩
                    rw [List.length_append]
                    have := hpl (by omega)
                    omega
                  · simp [intOf]; omega
              · have hj0' : (0 : Int) < (j : Int) := by omega
                have HN : Hid (65536 ≤ (acc2 ++ [43]).length + tx.size + vx.size → printP dz pts = ([], 3)) := by
                  intro hbig
                  have := HI2.out
                  rw [decide_eq_false hj0] at this
                  simp only [avsGo, Bool.false_eq_true, if_false] at this
                  rw [if_pos hbig] at this
                  exact HP.out this.symm
                have HY : Hid (¬ 65536 ≤ (acc2 ++ [43]).length + tx.size + vx.size → avsGo dz (acc2 ++ [43] ++ pairL dz ⟨tx, vx⟩) (decide (j + 1 = 0)) (pts[k].drop (j + 1)) = avsGo dz acc true pts[k]) := by
                  intro hbig
                  have := HI2.out
                  rw [decide_eq_false hj0] at this
                  simp only [avsGo, Bool.false_eq_true, if_false] at this
                  rw [if_neg hbig] at this
                  rw [decide_eq_false (by omega)]
                  exact this
                clear HI2 hst
                go_wp2_with (at_builtin; refine Hid.out ?_)
                refine wpList_pushH rfl _ _ rfl (wr.alloc (.cells #[.string tx, .string vx] 48)) w.heap.size _ _ [43] _ (ho4.alloc _) (by have := hx4.size; simp only [World.size_alloc]; omega) rfl _ _ (wr.heap.size + 1) (World.size_alloc _ _) rfl rfl rfl (by simp only [List.length_cons, List.length_nil]; omega) ?_
                intro v6 w6 ho6 hf6
                have hb6 : w6.heap[wr.heap.size]? = some (.cells #[.string tx, .string vx] 48 (0, 0)) := hf6.2 _ _ (heap_alloc_new wr _) (fun e => by cases e) (fun _ _ e => by cases e)
                have c0 := cell_of_row _ _ 0 _ _ _ hb6
                have c1 := cell_of_row _ _ 1 _ _ _ hb6
                simp only [List.getElem?_toArray, List.getElem?_cons_zero, List.getElem?_cons_succ] at c0 c1
                have hx6 : Ext w w6 := Below.trans (hx4.alloc _) hf6.1
                obtain ⟨sa6, sc6, hse6⟩ := own_shape ho6
                subst hse6
                have hl6 : (acc2 ++ [43]).length ≤ 200002 + k := by simp; omega
                clear hb6 ho4 hx4 hf6 e5 e6 hl4
                generalize hA : acc2 ++ [43] = acc3 at *
                clear hA
                by_cases hbig : 65536 ≤ (acc3).length + tx.size + vx.size
                · have hbig' : (65536 : Int) ≤ ((acc3).length : Int) + (tx.size : Int) + (vx.size : Int) := by omega
                  have hr : Hid (printP dz pts = ([], 3)) := HN.out hbig
                  clear hap
                  go_wp2
                  go_ret2
                  exact ⟨by rw [hr.out]; rfl, hx6⟩
                · have hbig' : ¬ (65536 : Int) ≤ ((acc3).length : Int) + (tx.size : Int) + (vx.size : Int) := by omega
                  have hap2 := hap w6 _ _ ho6 (by have := hx6.size; omega) hx6 (by omega) (by omega) (by omega)
                  clear hap
                  go_wp2_with (go_at_call 39; refine hap2.mono ?_; rintro _ w8 ⟨v8, rfl, ho8, hf8⟩)
                  go_roundw
                  · refine ⟨j + 1, _, hlt3, by go_num, ho8, HY.out hbig, ?_, Below.trans hx6 hf8.1⟩
                    rw [List.length_append]
                    have := hpl (by omega)
                    omega
                  · simp [intOf]; omega
            · have hlt2' : ¬ (j : Int) < (un : Int) := by omega
              have HX : Hid (avsGo dz acc true pts[k] = some acc2) := by
                show _ = _
                rw [← HI2.out, List.drop_of_length_le (by rw [← hun.out]; omega)]
                rfl
              clear HI2
              go_wp2
              go_roundw
              · refine ⟨k + 1, acc2, hlt, by go_num, ho4, ?_, by omega, hx4⟩
                have := HQ.out
                rw [HX.out] at this
                show _ = _
                rw [decide_eq_false (by omega)]
                exact this
              · simp [intOf]; omega
        · have hk0' : (0 : Int) < (k : Int) := by omega
          have HP : Hid (avsGo dz (acc ++ [44]) true pts[k] = none → printP dz pts = ([], 3)) := by
            intro h
            have := HI.out
            rw [decide_eq_false hk0] at this
            simp only [ptsGo, Bool.false_eq_true, if_false, h] at this
            rw [hgo.out, ← this]
          have HQ : Hid ((match avsGo dz (acc ++ [44]) true pts[k] with | none => none | some o => ptsGo dz o false (pts.drop (k + 1))) = ptsGo dz [] true pts) := by
            have := HI.out
            rw [decide_eq_false hk0] at this
            simp only [ptsGo, Bool.false_eq_true, if_false] at this
            exact this
          clear HI hdr
          go_wp2_with (at_builtin; refine Hid.out ?_)
          refine wpList_pushH rfl _ _ rfl (wr.alloc (.cells #[.slice ua un uc] 45)) w.heap.size _ _ [44] _ (ho.alloc _) (by have := hx.size; simp only [World.size_alloc]; omega) rfl _ _ (wr.heap.size + 1) (World.size_alloc _ _) rfl rfl rfl (by simp only [List.length_cons, List.length_nil]; omega) ?_
          intro v2 w2 ho2 hf2
          have hb2 : w2.heap[wr.heap.size]? = some (.cells #[.slice ua un uc] 45 (0, 0)) := hf2.2 _ _ (heap_alloc_new wr _) (fun e => by cases e) (fun _ _ e => by cases e)
          have c2 := cell_of_row _ _ 0 _ _ _ hb2
          simp only [List.getElem?_toArray, List.getElem?_cons_zero] at c2
          have hx2 : Ext w w2 := Below.trans (hx.alloc _) hf2.1
          have hl2 : (acc ++ [44]).length ≤ 200001 + k := by simp; omega
          clear hb2 ho hx hf2 hla
          go_wp2
          go_loopw [5, 31] (fun x i wr => ∃ (j : Nat) (acc' : List UInt8), j ≤ un ∧ i = .int .i64 j ∧ Own wr w.heap.size x acc' ∧ Hid (avsGo dz acc' (decide (j = 0)) (pts[k].drop j) = avsGo dz (acc ++ [44]) true pts[k]) ∧ acc'.length ≤ 200001 + k ∧ Ext w wr) (fun _ i _ => un - (intOf i).toNat)
          case atStart => exact ⟨0, _, Nat.zero_le _, rfl, ho2, rfl, hl2, hx2⟩
          case round =>
            obtain ⟨j, acc2, hj, rfl, ho4, HI2, hl4, hx4⟩ := hrel
            obtain ⟨sa, sc, hse⟩ := own_shape ho4
            subst hse
            by_cases hlt2 : j < un
            · have hlt3 : j < un := hlt2
              have hlt2' : (j : Int) < (un : Int) := by omega
              have hjp : j < pts[k].length := by rw [← hun.out]; exact hlt2
              obtain ⟨g5, o5, rfl, e5, e6⟩ := (hav.ext hx4).at j hjp
              have hmem : pts[k][j] ∈ pts[k] := List.getElem_mem hjp
              have hkm : pts[k] ∈ pts := List.getElem_mem hkp
              have hfx := hf _ hkm _ hmem
              have hdx := hd _ hkm _ hmem
              have hst := drop_cons6 pts[k] j hjp
              obtain ⟨x, hx⟩ : ∃ x, x = pts[k][j] := ⟨_, rfl⟩
              rw [← hx] at e5 e6 hfx hdx hst
              obtain ⟨tx, vx⟩ := x
              simp only at e5 e6 hfx hdx
              clear hx hmem hkm
              obtain ⟨hfx1, hfx2⟩ := hfx
              have hpl : vx.size < 65536 → (pairL dz ⟨tx, vx⟩).length ≤ tx.size + 1 + 3 * vx.size := by
                intro _
                have h9 := valGo_len hz (byt vx).length (byt vx) true
                have e9 : (pairL dz ⟨tx, vx⟩).length = tx.size + 1 + (valGo dz (byt vx).length true (byt vx)).length := by simp [pairL, valL, byt_length]; omega
                rw [byt_length] at h9
                rw [e9, byt_length]
                omega
              have hap := fun W v acc (ho : Own W w.heap.size v acc) (hs : w.heap.size ≤ W.heap.size) (hxx : Ext w W) (q1 : tx.size ≤ 1000000000) (q2 : vx.size ≤ 1000000000) (q3 : acc.length ≤ 1000000000) => appendPair_any w W w.heap.size v acc ho hs (Nat.le_refl _) hxx g off cap ht ⟨tx, vx⟩ q1 q2 q3 dz hz hdx
              simp only at hap
              clear hdx e0
              rw [hst] at HI2
              by_cases hj0 : j = 0
              · have hj0' : ¬ (0 : Int) < (j : Int) := by omega
                have HN : Hid (65536 ≤ acc2.length + tx.size + vx.size → printP dz pts = ([], 3)) := by
                  intro hbig
                  have := HI2.out
                  rw [decide_eq_true hj0] at this
                  simp only [avsGo, if_true] at this
                  rw [if_pos hbig] at this
                  exact HP.out this.symm
                have HY : Hid (¬ 65536 ≤ acc2.length + tx.size + vx.size → avsGo dz (acc2 ++ pairL dz ⟨tx, vx⟩) (decide (j + 1 = 0)) (pts[k].drop (j + 1)) = avsGo dz (acc ++ [44]) true pts[k]) := by
                  intro hbig
                  have := HI2.out
                  rw [decide_eq_true hj0] at this
                  simp only [avsGo, if_true] at this
                  rw [if_neg hbig] at this
                  rw [decide_eq_false (by omega)]
                  exact this
                have hj0h : Hid (j = 0) := hj0
                clear hj0 HI2 hst
                by_cases hbig : 65536 ≤ (acc2).length + tx.size + vx.size
                · have hbig' : (65536 : Int) ≤ ((acc2).length : Int) + (tx.size : Int) + (vx.size : Int) := by omega
                  have hr : Hid (printP dz pts = ([], 3)) := HN.out hbig
                  clear hap
                  go_wp2
                  go_ret2
                  exact ⟨by rw [hr.out]; rfl, (hx4.alloc _)⟩
                · have hbig' : ¬ (65536 : Int) ≤ ((acc2).length : Int) + (tx.size : Int) + (vx.size : Int) := by omega
                  have hap2 := hap (wr.alloc (.cells #[.string tx, .string vx] 48)) _ _ (ho4.alloc _) (by have := hx4.size; simp only [World.size_alloc]; omega) (hx4.alloc _) (by omega) (by omega) (by omega)
                  clear hap
                  go_wp2_with (go_at_call 39; refine hap2.mono ?_; rintro _ w8 ⟨v8, rfl, ho8, hf8⟩)
                  go_roundw
                  · refine ⟨j + 1, _, hlt3, by go_num, ho8, HY.out hbig, ?_, Below.trans (hx4.alloc _) hf8.1⟩
                    rw [List.length_append]
                    have := hpl (by omega)
                    omega
                  · simp [intOf]; omega
              · have hj0' : (0 : Int) < (j : Int) := by omega
                have HN : Hid (65536 ≤ (acc2 ++ [43]).length + tx.size + vx.size → printP dz pts = ([], 3)) := by
                  intro hbig
                  have := HI2.out
                  rw [decide_eq_false hj0] at this
                  simp only [avsGo, Bool.false_eq_true, if_false] at this
                  rw [if_pos hbig] at this
                  exact HP.out this.symm
                have HY : Hid (¬ 65536 ≤ (acc2 ++ [43]).length + tx.size + vx.size → avsGo dz (acc2 ++ [43] ++ pairL dz ⟨tx, vx⟩) (decide (j + 1 = 0)) (pts[k].drop (j + 1)) = avsGo dz (acc ++ [44]) true pts[k]) := by
                  intro hbig
                  have := HI2.out
                  rw [decide_eq_false hj0] at this
                  simp only [avsGo, Bool.false_eq_true, if_false] at this
                  rw [if_neg hbig] at this
                  rw [decide_eq_false (by omega)]
                  exact this
                clear HI2 hst
                go_wp2_with (at_builtin; refine Hid.out ?_)
                refine wpList_pushH rfl _ _ rfl (wr.alloc (.cells #[.string tx, .string vx] 48)) w.heap.size _ _ [43] _ (ho4.alloc _) (by have := hx4.size; simp only [World.size_alloc]; omega) rfl _ _ (wr.heap.size + 1) (World.size_alloc _ _) rfl rfl rfl (by simp only [List.length_cons, List.length_nil]; omega) ?_
                intro v6 w6 ho6 hf6
                have hb6 : w6.heap[wr.heap.size]? = some (.cells #[.string tx, .string vx] 48 (0, 0)) := hf6.2 _ _ (heap_alloc_new wr _) (fun e => by cases e) (fun _ _ e => by cases e)
                have c0 := cell_of_row _ _ 0 _ _ _ hb6
                have c1 := cell_of_row _ _ 1 _ _ _ hb6
                simp only [List.getElem?_toArray, List.getElem?_cons_zero, List.getElem?_cons_succ] at c0 c1
                have hx6 : Ext w w6 := Below.trans (hx4.alloc _) hf6.1
                obtain ⟨sa6, sc6, hse6⟩ := own_shape ho6
                subst hse6
                have hl6 : (acc2 ++ [43]).length ≤ 200002 + k := by simp; omega
                clear hb6 ho4 hx4 hf6 e5 e6 hl4
                generalize hA : acc2 ++ [43] = acc3 at *
                clear hA
                by_cases hbig : 65536 ≤ (acc3).length + tx.size + vx.size
                · have hbig' : (65536 : Int) ≤ ((acc3).length : Int) + (tx.size : Int) + (vx.size : Int) := by omega
                  have hr : Hid (printP dz pts = ([], 3)) := HN.out hbig
                  clear hap
                  go_wp2
                  go_ret2
                  exact ⟨by rw [hr.out]; rfl, hx6⟩
                · have hbig' : ¬ (65536 : Int) ≤ ((acc3).length : Int) + (tx.size : Int) + (vx.size : Int) := by omega
                  have hap2 := hap w6 _ _ ho6 (by have := hx6.size; omega) hx6 (by omega) (by omega) (by omega)
                  clear hap
                  go_wp2_with (go_at_call 39; refine hap2.mono ?_; rintro _ w8 ⟨v8, rfl, ho8, hf8⟩)
                  go_roundw
                  · refine ⟨j + 1, _, hlt3, by go_num, ho8, HY.out hbig, ?_, Below.trans hx6 hf8.1⟩
                    rw [List.length_append]
                    have := hpl (by omega)
                    omega
                  · simp [intOf]; omega
            · have hlt2' : ¬ (j : Int) < (un : Int) := by omega
              have HX : Hid (avsGo dz (acc ++ [44]) true pts[k] = some acc2) := by
                show _ = _
                rw [← HI2.out, List.drop_of_length_le (by rw [← hun.out]; omega)]
                rfl
              clear HI2
              go_wp2
              go_roundw
              · refine ⟨k + 1, acc2, hlt, by go_num, ho4, ?_, by omega, hx4⟩
                have := HQ.out
                rw [HX.out] at this
                show _ = _
                rw [decide_eq_false (by omega)]
                exact this
              · simp [intOf]; omega
      · have hlt' : ¬ (k : Int) < (n : Int) := by omega
        have HX : Hid (ptsGo dz [] true pts = some acc) := by
          show _ = _
          rw [← HI.out, List.drop_of_length_le (by rw [← hnp.out]; omega)]
          rfl
        have hcv := ho.conv
        obtain ⟨sa, sc, hse⟩ := own_shape ho
        subst hse
        clear HI hv
        by_cases hbig : 65536 < acc.length
        · have hbig' : (65536 : Int) < (acc.length : Int) := by omega
          have hr : Hid (printP dz pts = ([], 3)) := by show _ = _; rw [hgo.out, HX.out]; simp only []; rw [if_pos hbig]
          go_wp2
          go_ret2
          exact ⟨by rw [hr.out]; rfl, hx⟩
        · have hbig' : ¬ (65536 : Int) < (acc.length : Int) := by omega
          have hr : Hid (printP dz pts = (acc, 0)) := by show _ = _; rw [hgo.out, HX.out]; simp only []; rw [if_neg hbig]
          go_wp2
          go_ret2
          exact ⟨by rw [hr.out]; rfl, hx⟩
  · have hr : Hid (printP dz pts = ([], ck)) := by
      show _ = _
      unfold printP
      rw [if_pos (by rw [← hckh.out]; exact h0), ← hckh.out]
    clear hv
    go_enter Tryz.func16, Tryz.ntmps16
    go_wp2_with (go_at_call 38; refine hch.mono ?_; rintro _ w1 ⟨rfl, x1⟩)
    go_ret2
    exact ⟨by rw [hr.out]; rfl, hx0.trans x1⟩
end Go.Proofs.YtfiijlmpfpmgiaaGreatDoor
