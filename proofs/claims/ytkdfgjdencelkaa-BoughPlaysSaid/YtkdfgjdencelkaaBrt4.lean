/-
  The document's texts in order: Del, Put.
-/
import Derived.Test.YtkdfgjdencelkaaBrt3
namespace Go.Proofs.Ytkdfgjdencelkaa
open Go.RowKit
theorem Ext.appNil {w W W' : World} (h : Ext w W) (o : Only (own (.slice none 0 0)) W W') : Ext w W' := Ext.then h o (fun g hg => by simp [own, Value.ownBlock] at hg)
section
set_option maxRecDepth 100000
set_option maxHeartbeats 2000000
theorem tDel_none (w : World) (S : Nat → Prop) (R : Nat) (L : List (ByteArray × Nat)) (h : TxAt w S R L) (k : ByteArray) (hno : getL cmpS k L = none) : Calls Try.prog 23 #[.pointer (some ⟨R, 0, none⟩), .string k] w fun e w' => e = .returned (.bool false) ∧ delL cmpS k L = L ∧ w' = w := by
  have hR := tRank_any w _ R L h k
  obtain ⟨u1, u2, hB, r1, r2⟩ := h
  have c0 : w.cell? ⟨R, 0, none⟩ = some u1 := cell_of_row _ _ 0 _ _ _ hB
  obtain ⟨a, cap, e⟩ := row_slice r1
  obtain ⟨n, hn⟩ : ∃ n, Hid (L.length = n) := ⟨_, rfl⟩
  rw [List.length_map, hn.out] at e
  subst e
  have hs : Hid (Sl S6 w (.slice a n cap) (L.map (·.1))) := r1.sl
  have hm : n ≤ 9223372036854775807 := by have h9 := hs.out.len; unfold maxLen at h9; omega
  have hle : rankL cmpS k L ≤ n := by rw [← hn.out]; exact rankL_le _ _ _
  have hgr := getL_rank cmpS k L
  have hdr := delL_rank cmpS k L
  by_cases hlt : rankL cmpS k L < n
  · have hlt' : rankL cmpS k L < L.length := by rw [hn.out]; exact hlt
    obtain ⟨m, hm9⟩ : ∃ m, rankL cmpS k L = m := ⟨_, rfl⟩
    simp only [hm9] at hgr hdr hlt hlt' hR hle
    obtain ⟨g, o, e, ci⟩ := hs.out.at m (by rw [List.length_map]; exact hlt')
    subst e
    simp only [List.getElem_map, S6] at ci
    obtain ⟨y, hy⟩ : ∃ y, L[m] = y := ⟨_, rfl⟩
    rw [hy] at ci
    simp only [hy] at hgr hdr
    have hmi : (m : Int) < (n : Int) := by omega
    have hmb : ((m : Int) == (n : Int)) = false := by simpa using (show (m : Int) ≠ n by omega)
    by_cases hz : cmpS y.1 k = 0
    · rw [hgr.1 hlt' hz] at hno
      cases hno
    · have hd9 : delL cmpS k L = L := hdr.2 (fun _ => hz)
      rw [hd9]
      have he : (y.1.toList == k.toList) = false := by simpa using fun e => hz ((cmpS_less y.1 k).2.1 e)
      clear hgr hdr hz hy hB r1 r2 hm9 hlt' hs hd9 hno
      go_enter Try.func23, Try.ntmps23
      go_wp2_with (go_at_call 28; refine hR.mono ?_; rintro _ w ⟨rfl, rfl⟩)
      go_ret
      exact ⟨rfl, trivial, rfl⟩
  · obtain hm9 : rankL cmpS k L = n := by omega
    have hd9 : delL cmpS k L = L := hdr.2 (fun h9 => by rw [hm9, hn.out] at h9; omega)
    rw [hd9]
    rw [hm9] at hR
    clear hgr hdr hB r1 r2 hm9 hlt hle hs hd9 hno
    go_enter Try.func23, Try.ntmps23
    go_wp2_with (go_at_call 28; refine hR.mono ?_; rintro _ w ⟨rfl, rfl⟩)
    go_ret
    exact ⟨rfl, trivial, rfl⟩
end
/-- what stands behind a place of a list -/
theorem sl_dropG {α : Type} {enc : α → Value} {w : World} {a : Option Addr} {n cap : Nat} {l : List α} (h : Sl enc w (.slice a n cap) l) (k : Nat) (hk : k ≤ l.length) : Sl enc w (.slice (if cap = k then a else a.map (fun x => x.add k)) (n - k) (cap - k)) (l.drop k) := by
  have hl := h.len
  have h1 := h.cut k n cap (by omega) (by omega) hl.2.1 (Nat.le_refl _)
  rw [List.take_of_length_le (by omega)] at h1
  simpa [sliced] using h1
theorem setTx (w : World) (R : Nat) (u1 u2 v : Value) (hB : w.heap[R]? = some (.cells #[u1, u2] 53 (0, 0))) :
    ((w.setCell ⟨R, 0, none⟩ v).heap[R]? = some (.cells #[v, u2] 53 (0, 0)) ∧ Only (fun g => g = R) w (w.setCell ⟨R, 0, none⟩ v)) ∧ ((w.setCell ⟨R, 1, none⟩ v).heap[R]? = some (.cells #[u1, v] 53 (0, 0)) ∧ Only (fun g => g = R) w (w.setCell ⟨R, 1, none⟩ v)) :=
  ⟨⟨heap_setCell_at w R 0 v _ _ _ hB, (Only.refl (fun g => g = R) w).setCell (p := ⟨R, 0, none⟩) (.inl rfl) _⟩, ⟨heap_setCell_at w R 1 v _ _ _ hB, (Only.refl (fun g => g = R) w).setCell (p := ⟨R, 1, none⟩) (.inl rfl) _⟩⟩
theorem row_tx {α : Type} {enc : α → Value} {e : TypeId} {W W' : World} {S : Nat → Prop} {R : Nat} {c : Array Value} {v : Value} {l : List α} (h : RowE e enc W S v l) (hB : W.heap[R]? = some (.cells c 53 (0, 0))) (hne : e ≠ 53) (o : Only (fun g => g = R) W W') : RowE e enc W' S v l := by
  have h9 := Row.kept (Row.min h) o (fun g hg hg' => by
    obtain ⟨c', hc⟩ := own_typeN h g hg
    rw [show g = R from hg', hB] at hc
    simp only [Option.some.injEq, Obj.cells.injEq] at hc
    exact hne hc.2.1.symm)
  exact ⟨h9.1, h.2⟩
end Go.Proofs.Ytkdfgjdencelkaa
