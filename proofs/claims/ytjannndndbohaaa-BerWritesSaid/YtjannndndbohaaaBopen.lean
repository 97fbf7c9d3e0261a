/-
  Arguments that come in: a slice of bytes; an item.
-/
import Derived.Test.YtjannndndbohaaaBcard
import Derived.Test.YtjannndndbohaaaBval
import Derived.SizedLaws
namespace Go.Proofs.Ytjannndndbohaaa
open Go.ChangeShapes Go.WideShapes Go.ChangeAt Go.RowKit

set_option maxRecDepth 100000
theorem cells8 : Try.prog.cellsOf 5 = 1 := by kernel_rfl
theorem open_bytes {H : Type} {enc : TypeId × Value → H} {W : World} {base : Nat} {v : Value} {d : DataW H} {p : List MemPlace} (hval : Value.okWide Try.prog W .any base 22 v) (h : DataW.Trod enc Try.prog W 0 (fun _ => true) true 22 v d p) :
    ∃ l : List UInt8, Sl W v l ∧ ((d = .nil ∧ l = []) ∨ ∃ elems spare, d = .slice elems spare ∧ elems.length = l.length) := by
  obtain ⟨a1, len, cap, rfl⟩ := okWide_slice Try.underlying22 hval
  obtain ⟨fuel, hf⟩ := h
  rcases open_ints Try.underlying22 Try.underlying5 cells8 hf with ⟨hcs, hx⟩ | ⟨a, len', cap', zs, hcs, _, hl, hm, hz, hx, hcell, hwz⟩
  · simp [Value.cells] at hcs
    obtain ⟨rfl, rfl, rfl⟩ := hcs
    simp only [Prod.mk.injEq] at hx
    exact ⟨[], sl_nil rfl (by decide), .inl ⟨hx.1, rfl⟩⟩
  · simp [Value.cells] at hcs
    obtain ⟨rfl, rfl, rfl⟩ := hcs
    simp only [Prod.mk.injEq] at hx
    simp only [if_true] at hz
    have hlen : ((zs.take len).map fun n => UInt8.ofNat n.toNat).length = len := by simp; omega
    refine ⟨(zs.take len).map fun n => UInt8.ofNat n.toNat, ?_, .inr ⟨_, _, hx.1, by simp [lits]⟩⟩
    by_cases h0 : len = 0
    · subst h0
      simpa using sl_nil (w := W) (a := some a) rfl hm
    · obtain ⟨ab, ao, spot⟩ := a
      have hspot : spot = none := by simpa [Addr.add] using World.cell?_spot (hcell 0 (by omega))
      subst hspot
      refine sl_of hlen.symm hl hm fun j hj => ?_
      rw [hlen] at hj
      have hcj := hcell j (by omega)
      rw [Addr.add_lit] at hcj
      rw [hcj]
      have hb := range_u8 hwz j
      have e : zs.getD j 0 = zs[j]'(by omega) := by simp [List.getD, List.getElem?_eq_getElem (show j < zs.length by omega)]
      rw [List.getD_eq_getElem?_getD] at e
      rw [List.getD_eq_getElem?_getD]
      rw [e] at hb ⊢
      unfold B8
      congr 2
      simp only [List.getElem_map, List.getElem_take, UInt8.toNat_ofNat']
      omega

theorem cellsTlv : Try.prog.cellsOf 26 = 5 := by kernel_rfl
theorem tI : Try.prog.cellsOf 3 = 1 := by kernel_rfl
theorem tI8 : Try.prog.cellsOf 24 = 1 := by kernel_rfl
theorem tB : Try.prog.cellsOf 4 = 1 := by kernel_rfl
theorem five {α : Type} {l : List α} (h : l.length = 5) : ∃ a b c d e, l = [a, b, c, d, e] := by
  match l, h with
  | [a, b, c, d, e], _ => exact ⟨a, b, c, d, e, rfl⟩
theorem tlv_cells {H : Type} {enc : TypeId × Value → H} {W : World} {sp : Nat → Bool} {n : Nat} {cs : List Value} {x : DataW H × List MemPlace} (h : DataW.trod enc Try.prog W 0 sp true n 26 cs = some x) :
    ∃ (c : Int) (b : Bool) (m f t : Int), cs = [.int .i8 c, .bool b, .int .i64 m, .int .i64 f, .int .i64 t] := by
  obtain ⟨xs, k, rfl, hx, hl, hxl, hall⟩ := DataW.trod_struct Try.underlying26 h
  rw [cellsTlv] at hl
  obtain ⟨c0, c1, c2, c3, c4, rfl⟩ : ∃ c0 c1 c2 c3 c4, cs = [c0, c1, c2, c3, c4] := five hl
  obtain ⟨x0, x1, x2, x3, x4, rfl⟩ : ∃ x0 x1 x2 x3 x4, xs = [x0, x1, x2, x3, x4] := five hxl
  have f0 := hall 0 _ rfl
  have f1 := hall 1 _ rfl
  have f2 := hall 2 _ rfl
  have f3 := hall 3 _ rfl
  have f4 := hall 4 _ rfl
  change DataW.trod _ _ _ _ _ _ _ 24 (([c0, c1, c2, c3, c4].drop 0).take (Try.prog.cellsOf 24)) = some x0 at f0
  change DataW.trod _ _ _ _ _ _ _ 4 (([c0, c1, c2, c3, c4].drop 1).take (Try.prog.cellsOf 4)) = some x1 at f1
  change DataW.trod _ _ _ _ _ _ _ 3 (([c0, c1, c2, c3, c4].drop 2).take (Try.prog.cellsOf 3)) = some x2 at f2
  change DataW.trod _ _ _ _ _ _ _ 3 (([c0, c1, c2, c3, c4].drop 3).take (Try.prog.cellsOf 3)) = some x3 at f3
  change DataW.trod _ _ _ _ _ _ _ 3 (([c0, c1, c2, c3, c4].drop 4).take (Try.prog.cellsOf 3)) = some x4 at f4
  rw [tI8] at f0
  rw [tB] at f1
  rw [tI] at f2 f3 f4
  obtain ⟨z0, h0, _⟩ := DataW.trod_int Try.underlying24 f0
  obtain ⟨z1, h1, _⟩ := DataW.trod_bool Try.underlying4 f1
  obtain ⟨z2, h2, _⟩ := DataW.trod_int Try.underlying3 f2
  obtain ⟨z3, h3, _⟩ := DataW.trod_int Try.underlying3 f3
  obtain ⟨z4, h4, _⟩ := DataW.trod_int Try.underlying3 f4
  simp only [List.drop_succ_cons, List.drop_zero, List.take_succ_cons, List.take_zero, List.cons.injEq, and_true] at h0 h1 h2 h3 h4
  subst h0 h1 h2 h3 h4
  exact ⟨z0, z1, z2, z3, z4, rfl⟩
theorem open_tlv {H : Type} {enc : TypeId × Value → H} {W : World} {base : Nat} {v : Value} {d : DataW H} {p : List MemPlace} (hval : Value.okWide Try.prog W .any base 26 v) (h : DataW.Trod enc Try.prog W 0 (fun _ => true) true 26 v d p) :
    ∃ (c : Int) (b : Bool) (m f t : Int), v = iv c b m f t := by
  obtain ⟨cs, rfl, hcs⟩ := okWide_struct Try.underlying26 hval
  obtain ⟨fuel, hf⟩ := h
  obtain ⟨c, b, m, f, t, e⟩ := tlv_cells hf
  simp only [Value.cells] at e
  obtain rfl : cs = #[.int .i8 c, .bool b, .int .i64 m, .int .i64 f, .int .i64 t] := by rw [← Array.toList_inj]; exact e
  exact ⟨c, b, m, f, t, rfl⟩
end Go.Proofs.Ytjannndndbohaaa
