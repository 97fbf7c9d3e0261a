/-
  Moments' keys.
-/
import Derived.Test.YtimjmecogbkgfabGreatDoorPadToPord
import Derived.Test.YtimjmecogbkgfabGreatDoorMomW
import Derived.Test.YtimjmecogbkgfabGreatDoorKeyToPs
import Derived.Test.YtimjmecogbkgfabGreatDoorPord2
import Derived.Deep.Cut
import Derived.Deep.CutRange
namespace Go.Proofs.YtimjmecogbkgfabGreatDoor
open Go.RowKit

theorem mom_ok (l : List UInt8) (m : Int × List UInt8) (h : momL l = some m) : okMom m.1 := by
  unfold momL at h
  split at h
  · cases h
  · split at h
    · split at h
      · split at h
        · rename_i hc
          obtain rfl := Option.some.inj h
          exact hc
        · cases h
      · cases h
    · cases h
theorem mom_rest (l : List UInt8) (m : Int × List UInt8) (h : momL l = some m) : m.2.length ≤ 9 := by
  unfold momL at h
  split at h
  · cases h
  · split at h
    · rename_i r b _ hr
      split at h
      · split at h
        · obtain rfl := Option.some.inj h
          show r.length ≤ 9
          unfold restL at hr
          split at hr
          · split at hr
            · cases hr
            · rename_i hc
              simp only [Option.some.injEq, Prod.mk.injEq] at hr
              rw [← hr.1]
              have hle : ∀ l : List UInt8, (trimO l).length ≤ l.length := by
                intro l
                unfold trimO
                rw [List.length_reverse]
                have := (List.dropWhile_sublist (· == 48) (l := l.reverse)).length_le
                simpa using this
              have := hle (List.take (digN (List.drop 14 l).tail) (List.drop 14 l).tail)
              rw [List.length_take] at this
              omega
          · simp only [Option.some.injEq, Prod.mk.injEq] at hr
            rw [← hr.1]; simp
        · cases h
      · cases h
    · cases h
theorem moreA {w2 w3 : World} {M Z : Obj} (h : Fr ((w2.alloc M).alloc Z).drew.heap.size ((w2.alloc M).alloc Z).drew w3) : Fr (w2.heap.size + 1) (w2.alloc M) w3 := by
  have e : ((w2.alloc M).alloc Z).drew.heap.size = w2.heap.size + 1 + 1 := by show ((w2.heap.push M).push Z).size = _; simp
  have h1 : Fr (w2.heap.size + 1) (w2.alloc M) ((w2.alloc M).alloc Z).drew := ((Fr.refl _ _).alloc (by simp) Z).drew
  exact h1.trans (h.mono (by omega))
theorem moreB {w2 w3 : World} {M : Obj} (h : Fr ((w2.alloc M).drew).heap.size ((w2.alloc M).drew) w3) : Fr (w2.heap.size + 1) (w2.alloc M) w3 := by
  have e : (w2.alloc M).drew.heap.size = w2.heap.size + 1 := by show (w2.heap.push M).size = _; simp
  exact ((Fr.refl _ _).drew).trans (h.mono (by omega))
theorem keptA {w2 w3 : World} {M Z : Obj} (h : Fr ((w2.alloc M).alloc Z).drew.heap.size ((w2.alloc M).alloc Z).drew w3) : w3.heap[w2.heap.size + 1]? = some Z := by
  have e : ((w2.alloc M).alloc Z).drew.heap.size = w2.heap.size + 1 + 1 := by show ((w2.heap.push M).push Z).size = _; simp
  rw [h.1.block _ (by omega)]
  have e2 : (w2.alloc M).heap.size = w2.heap.size + 1 := by simp
  rw [← e2]
  exact heap_alloc_new (w2.alloc M) Z
theorem momC {w2 w3 : World} {n : Int} {R : ByteArray} {ty : TypeId} (h : Fr (w2.heap.size + 1) (w2.alloc (Obj.cells #[Value.int IntKind.i64 n, Value.string R] ty)) w3) : w3.cell? ⟨w2.heap.size, 0, none⟩ = some (.int .i64 n) :=
  (h.1.cell (p := ⟨w2.heap.size, 0, none⟩) (by show w2.heap.size < _; omega)).trans (heap_cell (heap_alloc_new w2 _) 0)
theorem sizeM {w2 w3 : World} {M : Obj} (h : Fr (w2.heap.size + 1) (w2.alloc M) w3) : w2.heap.size + 1 ≤ w3.heap.size := by
  have := h.size
  simpa using this
theorem Fr.setO {a w3 : World} {B : Nat} (h : Fr B a w3) {g i : Nat} (hB : B ≤ g) (v : Value) (hg : a.heap.size ≤ g := by simp) : Fr B a (w3.setCell ⟨g, i, none⟩ v) := by
  refine ⟨Below.setCell h.1 hB v, fun k o h1 h2 h3 => ?_⟩
  have hk : k < a.heap.size := (Array.getElem?_eq_some_iff.1 h1).1
  rw [heap_setCell_other _ _ _ _ (by show k ≠ g; omega)]
  exact h.2 k o h1 h2 h3
theorem momD {w2 w3 : World} {n : Int} {R : ByteArray} {ty : TypeId} (h : Fr (w2.heap.size + 1) (w2.alloc (Obj.cells #[Value.int IntKind.i64 n, Value.string R] ty)) w3) : w3.cell? ⟨w2.heap.size, 1, none⟩ = some (.string R) :=
  (h.1.cell (p := ⟨w2.heap.size, 1, none⟩) (by show w2.heap.size < _; omega)).trans (heap_cell (heap_alloc_new w2 _) 1)
set_option maxRecDepth 100000 in
set_option maxHeartbeats 4000000 in
theorem timeKey_any (w : World) (hp : HasPow w) (s : ByteArray) (hs : s.size ≤ 140737488355328) :
    Calls Tryz.prog 33 #[.agg #[], .string s] w fun e w' => e = .returned (ans ((momL (byt s)).map timeK)) ∧ Fr w.heap.size w w' := by
  have hmo := fun w => momentOf_any w s hs
  have mixed := mixed
  cases hm : momL (byt s) with
  | none =>
    rw [hm] at hmo
    go_enter Tryz.func33, Tryz.ntmps33
    go_wp2_with (go_at_call 36; refine (hmo _).mono ?_; rintro e w2 ⟨rfl, hf2⟩; simp only [momAns])
    go_ret2
    exact ⟨rfl, ((Fr.one _).then hf2).then (Fr.one _)⟩
  | some m =>
    rw [hm] at hmo
    have hbd := mom_bd _ _ hm
    have hok := mom_ok _ _ hm
    obtain ⟨n, r⟩ := m
    simp only [momAns] at hmo
    have hrl : r.length ≤ 9 := mom_rest _ _ hm
    clear hm
    obtain ⟨y, mo, d, a, b, c, e1, e2, e3, e4, e5, e6, b1, b2, b3, b4, b5, b6, b7, b8⟩ := stamp_parts n hok
    have HK : Hid (timeK (n, r) = padL 4 y ++ padL 2 mo ++ padL 2 d ++ padL 2 a ++ padL 2 b ++ padL 2 c ++ r) := by
      show timeK (n, r) = _
      unfold timeK
      simp only
      rw [e1, e2, e3, e4, e5, e6]
      simp only [Int.toNat_natCast]
    have hda := fun w R => mday_any w n R hbd.1 hbd.2
    have hdv : dayV (dayOf (n / 86400)) = .agg #[.int .i64 y, .int .i64 mo, .int .i64 d] := by
      rcases hq : dayOf (n / 86400) with ⟨q1, q2, q3⟩
      rw [hq] at e1 e2 e3
      simp only at e1 e2 e3
      subst e1 e2 e3
      rfl
    rw [hdv] at hda
    obtain ⟨R, hR⟩ : ∃ R, Hid (R = str r) := ⟨_, rfl⟩
    obtain ⟨k, hk⟩ : ∃ k : Nat, n % 86400 = (k : Int) := ⟨(n % 86400).toNat, by omega⟩
    rw [hk] at e4 e5 e6
    have E4 : Hid ((k : Int) / 3600 = a) := e4
    have E5 : Hid ((k : Int) % 3600 / 60 = b) := e5
    have E6 : Hid ((k : Int) % 60 = c) := e6
    have hk1 : (k : Int) < 86400 := by omega
    have HKk : Hid (n % 86400 = (k : Int)) := hk
    have B1 : Hid (y ≤ 9999) := b1
    have B2 : Hid (mo ≤ 12) := b2
    have B3 : Hid (d ≤ 31) := b3
    have B4 : Hid (a ≤ 23) := b4
    have B5 : Hid (b ≤ 59) := b5
    have B6 : Hid (c ≤ 59) := b6
    have HL : Hid (r.length ≤ 9) := hrl
    have HK1 : Hid ((k : Int) < 86400) := hk1
    clear b1 b2 b3 b4 b5 b6 hrl hk1
    have hrem : binOp .rem 2 (.int .i64 n) (.int .i64 86400) = pure (.int .i64 (k : Int)) := by rw [binOp_rem]; show Op.intDiv .rem .i64 n 86400 = _; unfold Op.intDiv; rw [if_neg (by decide), ← hk, Int.tmod_eq_emod_of_nonneg hbd.1]
    clear e1 e2 e3 e4 e5 e6 hdv hok b7 b8 hk hbd
    go_enter Tryz.func33, Tryz.ntmps33
    go_upto_region 4 with (go_at_call 36; refine (hmo _).mono ?_; rintro e w2 ⟨rfl, hf2⟩; simp only [momV]; rw [← hR.out])
    go_cut [8, 9] from 18 to 22 (fun s8 s9 wx => ∃ g : Nat, s8 = .pointer (some ⟨g, 0, none⟩) ∧ s9 = .int .i64 (k : Int) ∧ w2.heap.size < g ∧ wx.heap[g]? = some (.cells #[.int .i64 (y : Int), .int .i64 (mo : Int), .int .i64 (d : Int)] 72) ∧ Fr (w2.heap.size + 1) (w2.alloc (Obj.cells #[Value.int IntKind.i64 n, Value.string R] 68)) wx)
    case first =>
      clear HK1 HL E4 E5 E6 HK B1 B2 B3 B4 B5 B6 hp hmo hs hf2
      go_region_with_o (first
        | (go_at_call 51; refine (hda _ _).mono ?_; rintro e w3 ⟨rfl, hf3⟩; with_reducible have hf4 := moreA hf3; with_reducible have k2 := keptA hf3;  have c0 : _ = some (Value.int .i64 0) := heap_cell k2 0; have c1 : _ = some (Value.int .i64 0) := heap_cell k2 1; have c2 : _ = some (Value.int .i64 0) := heap_cell k2 2; have f0 := frozen_of_row _ _ 0 _ _ k2; have f1 := frozen_of_row _ _ 1 _ _ k2; have f2 := frozen_of_row _ _ 2 _ _ k2; have hcl : w3.cell? ⟨w2.heap.size, 0, none⟩ = some (.int .i64 n) := momC hf4; have hcl3 : (((w3.setCell ⟨w2.heap.size + 1, 0, none⟩ (.int .i64 (y : Int))).setCell ⟨w2.heap.size + 1, 1, none⟩ (.int .i64 (mo : Int))).setCell ⟨w2.heap.size + 1, 2, none⟩ (.int .i64 (d : Int))).cell? ⟨w2.heap.size, 0, none⟩ = some (.int .i64 n) := momC (Fr.setO (Fr.setO (Fr.setO hf4 (by omega) _) (by omega) _) (by omega) _))
        | (go_at_call 51; refine (hda _ _).mono ?_; rintro e w3 ⟨rfl, hf3⟩; with_reducible have hf4 := moreB hf3;  have hcl : w3.cell? ⟨w2.heap.size, 0, none⟩ = some (.int .i64 n) := momC hf4; have hcl2 : ∀ Z, (w3.alloc Z).cell? ⟨w2.heap.size, 0, none⟩ = some (.int .i64 n) := fun Z => momC (hf4.alloc (sizeM hf4) Z)))
      all_goals go_wp2
      all_goals go_meet
      all_goals first
        | (have k3 := k2; clear k3; exact ⟨w2.heap.size + 1, rfl, rfl, by omega, set_three k2, Fr.setO (Fr.setO (Fr.setO hf4 (by omega) _) (by omega) _) (by omega) _⟩)
        | exact ⟨w3.heap.size, rfl, rfl, by have := sizeM hf4; omega, heap_alloc_new _ _, hf4.alloc (sizeM hf4) _⟩
    case rest =>
      obtain ⟨g, rfl, rfl, hg, hgb, hfx⟩ := hcut
      have hw2 : w.heap.size ≤ w2.heap.size := by have := hf2.size; simp at this; omega
      have hf0 : Fr w.heap.size w wc := (((Fr.one _).then hf2).then (Fr.one _)).trans (hfx.mono (by omega))
      have hp0 := hp.step hf0
      have hB0 : w2.heap.size + 1 ≤ wc.heap.size := sizeM hfx
      have hgl : g < wc.heap.size := (Array.getElem?_eq_some_iff.1 hgb).1
      have hkw := hp0.lt
      have cells : ∀ W, Fr wc.heap.size wc W → W.cell? ⟨g, 0, none⟩ = some (.int .i64 (y : Int)) ∧ W.cell? ⟨g, 1, none⟩ = some (.int .i64 (mo : Int)) ∧ W.cell? ⟨g, 2, none⟩ = some (.int .i64 (d : Int)) ∧ W.cell? ⟨w2.heap.size, 1, none⟩ = some (.string R) ∧ HasPow W := by
        intro W hf
        have hb : W.heap[g]? = _ := (hf.1.block g hgl).trans hgb
        exact ⟨heap_cell hb 0, heap_cell hb 1, heap_cell hb 2, momD (hfx.trans (hf.mono hB0)), hp0.keep hf hkw⟩
      clear hf2 hfx hgb hgl hkw hmo hda hs HKk hrem hw2 hg
      go_wp2_with (first | (at_make; refine wpList_make8 rfl _ _ rfl _ 23 rfl rfl rfl (by omega) ?_))
      intro v1 w4 o4 f4
      have g1 : wc.heap.size ≤ w4.heap.size := f4.size
      obtain ⟨c0, c1, c2, c3, p4⟩ := cells w4 f4
      have h1 := padded_any w4 p4 wc.heap.size v1 [] 3 y 4 (y : Int) rfl rfl (by decide) (by have := B1.out; omega) o4 g1 (by simp)
      go_wp2_with fail
      go_at_call 52
      refine h1.mono ?_
      rintro e w5 ⟨v5, rfl, o5, f5⟩
      have f5 := f4.trans f5
      clear c0 c1 c2 c3 g1 h1
      have g1 : wc.heap.size ≤ w5.heap.size := f5.size
      obtain ⟨c0, c1, c2, c3, p5⟩ := cells w5 f5
      have h1 := padded_any w5 p5 wc.heap.size v5 ([] ++ padL (3 + 1) y) 1 mo 2 (mo : Int) rfl rfl (by decide) (by have := B2.out; omega) o5 g1 (by simp only [List.length_append, padL_length, List.length_nil]; omega)
      go_wp2_with fail
      go_at_call 52
      refine h1.mono ?_
      rintro e w6 ⟨v6, rfl, o6, f6⟩
      have f6 := f5.trans f6
      clear c0 c1 c2 c3 g1 h1
      have g1 : wc.heap.size ≤ w6.heap.size := f6.size
      obtain ⟨c0, c1, c2, c3, p6⟩ := cells w6 f6
      have h1 := padded_any w6 p6 wc.heap.size v6 (([] ++ padL (3 + 1) y) ++ padL (1 + 1) mo) 1 d 2 (d : Int) rfl rfl (by decide) (by have := B3.out; omega) o6 g1 (by simp only [List.length_append, padL_length, List.length_nil]; omega)
      go_wp2_with fail
      go_at_call 52
      refine h1.mono ?_
      rintro e w7 ⟨v7, rfl, o7, f7⟩
      have f7 := f6.trans f7
      clear c0 c1 c2 c3 g1 h1
      have g1 : wc.heap.size ≤ w7.heap.size := f7.size
      obtain ⟨c0, c1, c2, c3, p7⟩ := cells w7 f7
      have hk1 := HK1.out
      have h1 := padded_any w7 p7 wc.heap.size v7 ((([] ++ padL (3 + 1) y) ++ padL (1 + 1) mo) ++ padL (1 + 1) d) 1 a 2 ((k : Int) / 3600) rfl E4.out (by decide) (by have := B4.out; omega) o7 g1 (by simp only [List.length_append, padL_length, List.length_nil]; omega)
      go_wp2_with fail
      go_at_call 52
      refine h1.mono ?_
      rintro e w8 ⟨v8, rfl, o8, f8⟩
      have f8 := f7.trans f8
      clear c0 c1 c2 c3 g1 h1
      have g1 : wc.heap.size ≤ w8.heap.size := f8.size
      obtain ⟨c0, c1, c2, c3, p8⟩ := cells w8 f8
      have h1 := padded_any w8 p8 wc.heap.size v8 (((([] ++ padL (3 + 1) y) ++ padL (1 + 1) mo) ++ padL (1 + 1) d) ++ padL (1 + 1) a) 1 b 2 ((k : Int) % 3600 / 60) rfl E5.out (by decide) (by have := B5.out; omega) o8 g1 (by simp only [List.length_append, padL_length, List.length_nil]; omega)
      go_wp2_with fail
      go_at_call 52
      refine h1.mono ?_
      rintro e w9 ⟨v9, rfl, o9, f9⟩
      have f9 := f8.trans f9
      clear c0 c1 c2 c3 g1 h1
      have g1 : wc.heap.size ≤ w9.heap.size := f9.size
      obtain ⟨c0, c1, c2, c3, p9⟩ := cells w9 f9
      have h1 := padded_any w9 p9 wc.heap.size v9 ((((([] ++ padL (3 + 1) y) ++ padL (1 + 1) mo) ++ padL (1 + 1) d) ++ padL (1 + 1) a) ++ padL (1 + 1) b) 1 c 2 ((k : Int) % 60) rfl E6.out (by decide) (by have := B6.out; omega) o9 g1 (by simp only [List.length_append, padL_length, List.length_nil]; omega)
      go_wp2_with fail
      go_at_call 52
      refine h1.mono ?_
      rintro e w10 ⟨v10, rfl, o10, f10⟩
      have f10 := f9.trans f10
      clear c0 c1 c2 c3 g1 h1
      have g1 : wc.heap.size ≤ w10.heap.size := f10.size
      obtain ⟨c0, c1, c2, c3, p10⟩ := cells w10 f10
      have hcv := o10.conv
      obtain ⟨P, hP⟩ : ∃ P, Hid (P = str (((((([] ++ padL (3 + 1) y) ++ padL (1 + 1) mo) ++ padL (1 + 1) d) ++ padL (1 + 1) a) ++ padL (1 + 1) b) ++ padL (1 + 1) c)) := ⟨str (((((([] ++ padL (3 + 1) y) ++ padL (1 + 1) mo) ++ padL (1 + 1) d) ++ padL (1 + 1) a) ++ padL (1 + 1) b) ++ padL (1 + 1) c), rfl⟩
      rw [← hP.out] at hcv
      have hPs : P.size ≤ 20 := by rw [hP.out, str_size]; simp only [List.length_append, padL_length, List.length_nil]; omega
      have hRs : R.size ≤ 9 := by rw [hR.out, str_size]; exact HL.out
      go_wp2
      go_ret2
      refine ⟨ret_some rfl ?_, hf0.then f10⟩
      rw [HK.out, hP.out, hR.out]
      apply ByteArray.ext
      simp [str]
end Go.Proofs.YtimjmecogbkgfabGreatDoor
