/-
  Moments: how far the clock that is written runs ahead; a moment's day.
-/
import Derived.Test.YtimjmecogbkgfabGreatDoorStamp
namespace Go.Proofs.YtimjmecogbkgfabGreatDoor
open Go.RowKit

theorem head_at (s : ByteArray) (h : 0 < s.size) : (byt s).head? = some s[0] := head_byt s h
theorem five_tail (s : ByteArray) : (byt s).tail = byt (s.extract 1 s.size) := by rw [byt_from, List.drop_one]
theorem byte_eq {a b : UInt8} (h : a = b) : ((a.toNat : Int) == (b.toNat : Int)) = true := by rw [h]; simp
theorem byte_ne {a b : UInt8} (h : a ≠ b) : ((a.toNat : Int) == (b.toNat : Int)) = false := by
  simp only [beq_eq_false_iff_ne, ne_eq]
  intro e
  exact h (UInt8.toNat_inj.1 (by omega))
theorem byte_bne {a b : UInt8} (h : a ≠ b) : ((a.toNat : Int) != (b.toNat : Int)) = true := by
  simp only [bne, byte_ne h, Bool.not_false]
theorem byte_beq {a b : UInt8} (h : a = b) : ((a.toNat : Int) != (b.toNat : Int)) = false := by
  simp only [bne, byte_eq h, Bool.not_true]

set_option maxRecDepth 100000 in
set_option maxHeartbeats 2000000 in
theorem offsetOf_any (w : World) (s : ByteArray) :
    Calls Tryz.prog 58 #[.string s] w fun e w' => ∃ z ok, e = .returned (.tuple #[.int .i64 z, .bool ok]) ∧ (offL (byt s) = some z ∧ ok = true ∧ -1080000 ≤ z ∧ z ≤ 1080000 ∨ offL (byt s) = none ∧ ok = false) ∧ w' = w := by
  have htl := toList_byt s
  by_cases hZ : byt s = [90]
  · have hz : (s.toList == [90]) = true := by rw [htl, hZ]; rfl
    have HO : Hid (offL (byt s) = some 0) := by show offL (byt s) = _; unfold offL; rw [if_pos hZ]
    clear htl hZ
    go_enter Tryz.func58, Tryz.ntmps58
    go_wp2
    go_ret2
    exact ⟨0, true, rfl, Or.inl ⟨HO.out, rfl, by omega, by omega⟩, rfl⟩
  · have hz : (s.toList == [90]) = false := by rw [htl]; simpa using hZ
    clear htl
    by_cases h5 : s.size = 5
    · have h5' : ((s.size : Int) != 5) = false := by rw [h5]; rfl
      have h0 : 0 < s.size := by omega
      have hb := s[0].toNat_lt
      have x1 : s.extract 1 5 = s.extract 1 s.size := by rw [h5]
      have z1 : (s.extract 1 5).size = 4 := by rw [x1, size_from]; omega
      have hck := fun w => clockOf_any w (s.extract 1 5) (by omega) (by omega)
      have HT : Hid ((byt s).tail = byt (s.extract 1 5)) := by show (byt s).tail = _; rw [x1]; exact five_tail s
      have hcb : ∀ n, clockL (byt (s.extract 1 5)) = some n → n ≤ 1080000 := fun n h => clock_bd _ n (by rw [byt_length]; omega) h
      have hH := head_at s h0
      have hl5 : (byt s).length = 5 := by rw [byt_length]; exact h5
      clear x1 z1
      by_cases hp : s[0] = 43
      · have n1 : ((s[0].toNat : Int) != 43) = false := byte_beq hp
        have n2 : ((s[0].toNat : Int) == 45) = false := by rw [hp]; rfl
        have HO : Hid (offL (byt s) = (clockL (byt (s.extract 1 5))).map (fun n => (n : Int))) := by
          show offL (byt s) = _
          unfold offL
          rw [if_neg hZ, if_pos ⟨hl5, by rw [hH, hp]⟩, HT.out]
        clear hp hH hl5 HT
        generalize clockL (byt (s.extract 1 5)) = o at *
        cases o with
        | none =>
          go_enter Tryz.func58, Tryz.ntmps58
          go_wp2_with (go_at_call 78; refine (hck _).mono ?_; rintro e w2 ⟨rfl, rfl⟩; rw [natAns_none])
          go_ret2
          exact ⟨0, false, rfl, Or.inr ⟨HO.out, rfl⟩, rfl⟩
        | some n =>
          have hn := hcb n rfl
          go_enter Tryz.func58, Tryz.ntmps58
          go_wp2_with (go_at_call 78; refine (hck _).mono ?_; rintro e w2 ⟨rfl, rfl⟩; rw [natAns_some])
          go_ret2
          exact ⟨n, true, rfl, Or.inl ⟨HO.out, rfl, by omega, by omega⟩, rfl⟩
      · have n1 : ((s[0].toNat : Int) != 43) = true := byte_bne hp
        by_cases hm : s[0] = 45
        · have n2 : ((s[0].toNat : Int) != 45) = false := byte_beq hm
          have n3 : ((s[0].toNat : Int) == 45) = true := byte_eq hm
          have HO : Hid (offL (byt s) = (clockL (byt (s.extract 1 5))).map (fun n => - (n : Int))) := by
            show offL (byt s) = _
            unfold offL
            rw [if_neg hZ, if_neg (by rw [hH, hm]; simp), if_pos ⟨hl5, by rw [hH, hm]⟩, HT.out]
          clear hp hm hH hl5 HT
          generalize clockL (byt (s.extract 1 5)) = o at *
          cases o with
          | none =>
            go_enter Tryz.func58, Tryz.ntmps58
            go_wp2_with (go_at_call 78; refine (hck _).mono ?_; rintro e w2 ⟨rfl, rfl⟩; rw [natAns_none])
            go_ret2
            exact ⟨_, false, rfl, Or.inr ⟨HO.out, rfl⟩, rfl⟩
          | some n =>
            have hn := hcb n rfl
            go_enter Tryz.func58, Tryz.ntmps58
            go_wp2_with (go_at_call 78; refine (hck _).mono ?_; rintro e w2 ⟨rfl, rfl⟩; rw [natAns_some])
            go_ret2
            exact ⟨- (n : Int), true, rfl, Or.inl ⟨HO.out, rfl, by omega, by omega⟩, rfl⟩
        · have n2 : ((s[0].toNat : Int) != 45) = true := byte_bne hm
          have HO : Hid (offL (byt s) = none) := by
            show offL (byt s) = _
            unfold offL
            rw [if_neg hZ, if_neg (by rw [hH]; simp [hp]), if_neg (by rw [hH]; simp [hm])]
          clear hp hm hH hl5 HT hck hcb
          go_enter Tryz.func58, Tryz.ntmps58
          go_wp2
          go_ret2
          exact ⟨_, false, rfl, Or.inr ⟨HO.out, rfl⟩, rfl⟩
    · have h5' : ((s.size : Int) != 5) = true := by simp; omega
      have HO : Hid (offL (byt s) = none) := by
        show offL (byt s) = _
        have : (byt s).length ≠ 5 := by rw [byt_length]; exact h5
        unfold offL
        rw [if_neg hZ, if_neg (fun h => this h.1), if_neg (fun h => this h.1)]
      go_enter Tryz.func58, Tryz.ntmps58
      go_wp2
      go_ret2
      exact ⟨_, false, rfl, Or.inr ⟨HO.out, rfl⟩, rfl⟩

/-- a moment as a value -/
def momV (m : Int × List UInt8) : Value := .agg #[.int .i64 m.1, .string (str m.2)]
theorem set_three {w3 : World} {g : Nat} {a b c x y z : Value} {t : TypeId} (h : w3.heap[g]? = some (.cells #[a, b, c] t)) :
    (((w3.setCell ⟨g, 0, none⟩ x).setCell ⟨g, 1, none⟩ y).setCell ⟨g, 2, none⟩ z).heap[g]? = some (.cells #[x, y, z] t) :=
  heap_setCell_same _ g 2 _ t z (heap_setCell_same _ g 1 _ t y (heap_setCell_same w3 g 0 _ t x h))
theorem Fr.setOver {w w3 : World} (h : Fr w.heap.size w w3) {g i : Nat} (hg : w.heap.size ≤ g) (v : Value) : Fr w.heap.size w (w3.setCell ⟨g, i, none⟩ v) := by
  refine ⟨Below.setCell h.1 hg v, fun k o h1 h2 h3 => ?_⟩
  have hk : k < w.heap.size := (Array.getElem?_eq_some_iff.1 h1).1
  rw [heap_setCell_other _ _ _ _ (by show k ≠ g; omega)]
  exact h.2 k o h1 h2 h3
theorem two_kept {w w3 : World} {a b : Obj} (h : Fr ((w.alloc a).alloc b).heap.size ((w.alloc a).alloc b) w3) : w3.heap[w.heap.size + 1]? = some b := by
  have e0 : ((w.alloc a).alloc b).heap = (w.heap.push a).push b := rfl
  have sz : ((w.alloc a).alloc b).heap.size = w.heap.size + 1 + 1 := by rw [e0]; simp
  rw [h.1.block (w.heap.size + 1) (by rw [sz]; omega), e0, Array.getElem?_push]
  simp only [Array.size_push]
  rw [if_pos trivial]

set_option maxRecDepth 100000 in
set_option maxHeartbeats 2000000 in
theorem mday_any (w : World) (n : Int) (R : ByteArray) (h0 : 0 ≤ n) (h1 : n ≤ 500000000000) :
    Calls Tryz.prog 51 #[.agg #[.int .i64 n, .string R]] w fun e w' => e = .returned (dayV (dayOf (n / 86400))) ∧ Fr w.heap.size w w' := by
  have hdo := fun w => dayOf_any w (n / 86400) (by omega) (by omega)
  generalize dayOf (n / 86400) = q at *
  obtain ⟨p1, p2, p3⟩ := q
  simp only [dayV] at hdo ⊢
  go_enter Tryz.func51, Tryz.ntmps51
  go_wp2_with (go_at_call 74; refine (hdo _).mono ?_; rintro e w3 ⟨rfl, hf3⟩; have k2 := two_kept hf3; have c0 : _ = some (Value.int .i64 0) := heap_cell k2 0; have c1 : _ = some (Value.int .i64 0) := heap_cell k2 1; have c2 : _ = some (Value.int .i64 0) := heap_cell k2 2; have f0 := frozen_of_row _ _ 0 _ _ k2; have f1 := frozen_of_row _ _ 1 _ _ k2; have f2 := frozen_of_row _ _ 2 _ _ k2)
  refine post_c rfl rfl (w.heap.size + 1) _ rfl (run_loadVar_row (P := Tryz.prog) _ (w.heap.size + 1) 72 72 _ _ _ (set_three k2) Tryz.underlying72 rfl (by kernel_rfl)) ?_
  exact ⟨rfl, Fr.setOver (Fr.setOver (Fr.setOver (((Fr.one _).then (Fr.one _)).then hf3) (by omega) _) (by omega) _) (by omega) _⟩
end Go.Proofs.YtimjmecogbkgfabGreatDoor
