/-
  Slices that are written out, read by package ber's readers.
-/
import Derived.Test.YtjannndndbohaabBworks
namespace Go.Proofs.Ytjannndndbohaab
open Go.RowKit Go.Shelf

theorem sl_lit (w : World) (l : List UInt8) (cs : Array Value) (n : Nat) (hc : cs = (l.map B8).toArray) (hn : n = l.length) (hl : l.length ≤ maxLen) : Sl (w.alloc (.cells cs 5)) (.slice (some ⟨w.heap.size, 0, none⟩) n n) l := by
  subst hc hn
  refine sl_of rfl (Nat.le_refl _) hl fun j hj => ?_
  rw [Nat.zero_add, cell_of_row _ _ _ _ _ _ (heap_alloc_new w _)]
  simp [List.getElem?_eq_getElem hj]
theorem Head_lit {w0 w : World} (hx : Ext w0 w) (l : List UInt8) (cs : Array Value) (n H : Nat) (a e : Int) (T : Tl) (E : Nat) (hh : headL l a e = (T, E)) (hc : cs = (l.map B8).toArray) (hn : n = l.length) (hl : l.length ≤ 1000) (hH : w.heap.size = H) :
    Calls Try.prog 9 #[.slice (some ⟨H, 0, none⟩) n n, .int .i64 a, .int .i64 e] (w.alloc (.cells cs 5)) fun x w' => x = .returned (.tuple #[tv T, .int .i64 (E : Int)]) ∧ Ext w0 w' := by
  subst hH
  have h := Head_any _ _ l a e (sl_lit w l cs n hc hn (by unfold maxLen; omega)) (by omega)
  rw [hh] at h
  exact h.mono fun _ _ ⟨h1, h2⟩ => ⟨h1, (hx.alloc _).trans h2⟩
theorem Int_lit {w0 w : World} (hx : Ext w0 w) (l : List UInt8) (cs : Array Value) (n H : Nat) (c : Int) (b : Bool) (m f t : Int) (V : Int) (E : Nat) (hv : intV l b f t = V) (he : intE l b f t = E) (hc : cs = (l.map B8).toArray) (hn : n = l.length) (hl : l.length ≤ 1000) (hH : w.heap.size = H) :
    Calls Try.prog 13 #[.slice (some ⟨H, 0, none⟩) n n, iv c b m f t] (w.alloc (.cells cs 5)) fun x w' => x = .returned (.tuple #[.int .i64 V, .int .i64 (E : Int)]) ∧ Ext w0 w' := by
  subst hH
  have h := Int_any _ _ l c b m f t (sl_lit w l cs n hc hn (by unfold maxLen; omega))
  rw [hv, he] at h
  exact h.mono fun _ _ ⟨h1, h2⟩ => ⟨h1, (hx.alloc _).trans h2⟩
theorem Flag_lit {w0 w : World} (hx : Ext w0 w) (l : List UInt8) (cs : Array Value) (n H : Nat) (c : Int) (b : Bool) (m f t : Int) (V : Bool) (E : Nat) (hv : flagV l b f t = V) (he : flagE l b f t = E) (hc : cs = (l.map B8).toArray) (hn : n = l.length) (hl : l.length ≤ 1000) (hH : w.heap.size = H) :
    Calls Try.prog 14 #[.slice (some ⟨H, 0, none⟩) n n, iv c b m f t] (w.alloc (.cells cs 5)) fun x w' => x = .returned (.tuple #[.bool V, .int .i64 (E : Int)]) ∧ Ext w0 w' := by
  subst hH
  have h := Flag_any _ _ l c b m f t (sl_lit w l cs n hc hn (by unfold maxLen; omega))
  rw [hv, he] at h
  exact h.mono fun _ _ ⟨h1, h2⟩ => ⟨h1, (hx.alloc _).trans h2⟩
theorem Text_lit {w0 w : World} (hx : Ext w0 w) (l : List UInt8) (cs : Array Value) (n H : Nat) (c : Int) (b : Bool) (m f t : Int) (V : ByteArray) (E : Nat) (hv : str (textV l b f t) = V) (he : bodyE l b f t = E) (hc : cs = (l.map B8).toArray) (hn : n = l.length) (hl : l.length ≤ 1000) (hH : w.heap.size = H) :
    Calls Try.prog 15 #[.slice (some ⟨H, 0, none⟩) n n, iv c b m f t] (w.alloc (.cells cs 5)) fun x w' => x = .returned (.tuple #[.string V, .int .i64 (E : Int)]) ∧ Ext w0 w' := by
  subst hH
  have h := Text_any _ _ l c b m f t (sl_lit w l cs n hc hn (by unfold maxLen; omega))
  rw [hv, he] at h
  exact h.mono fun _ _ ⟨h1, h2⟩ => ⟨h1, (hx.alloc _).trans h2⟩
end Go.Proofs.Ytjannndndbohaab
