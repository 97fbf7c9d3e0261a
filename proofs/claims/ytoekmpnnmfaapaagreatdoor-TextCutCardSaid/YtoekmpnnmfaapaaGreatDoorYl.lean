/-
  The law's left and heavy: how much a filter holds (written by gen/mkyl.py).
-/
import Derived.Test.YtoekmpnnmfaapaaGreatDoorQI
import Derived.Deep.DeepCutAuto
import Derived.Deep.CutBlock
namespace Go.Proofs.YtoekmpnnmfaapaaGreatDoor
open Go.RowKit

/-- all texts, parts and bytes -/
def wtM (ms : List ByteArray) : Nat := (ms.map fun m => 1 + m.size).sum
def wtO (a : OwnF) : Nat := 1 + a.desc.size + a.value.size + a.start.size + a.fin.size + a.rule.size + wtM a.ms
def wtF : FT → Nat
  | .nil => 0
  | .cons a k r => wtO a + wtF k + wtF r
theorem wtF_cons (a : OwnF) (k r : FT) : wtF (.cons a k r) = wtO a + wtF k + wtF r := rfl
theorem wtM_take (ms : List ByteArray) (k : Nat) (h : k < ms.length) : wtM (ms.take (k + 1)) = wtM (ms.take k) + (1 + ms[k].size) := by
  unfold wtM
  rw [List.take_succ_eq_append_getElem h, List.map_append, List.sum_append]
  simp
theorem wtM_len : ∀ ms : List ByteArray, ms.length ≤ wtM ms
  | [] => Nat.zero_le _
  | m :: r => by
    have := wtM_len r
    unfold wtM at *
    simp only [List.map_cons, List.sum_cons, List.length_cons]; omega
theorem wtF_len : ∀ k : FT, k.len ≤ wtF k
  | .nil => Nat.le_refl _
  | .cons a k r => by
    have := wtF_len r
    unfold wtF FT.len wtO
    omega
def LSpec (a : OwnF) (k : FT) : Prop := ∀ (w : World) (f : F9) (n : Int), FOwn w f a → FKids w f k → 0 ≤ n → n ≤ 16777216 →
  Calls Tryz.prog 27 #[.agg f.arr, .int .i64 n] w fun e w' => (∃ m : Int, e = .returned (.int .i64 m) ∧ m ≤ n ∧ -10000000000000000 ≤ m ∧ (0 ≤ m → m = n - (wtO a + wtF k : Nat))) ∧ Ext w w'
def LAll : FT → Prop
  | .nil => True
  | .cons a k r => LSpec a k ∧ LAll r
set_option maxRecDepth 100000 in
set_option maxHeartbeats 4000000 in
theorem left_step (a : OwnF) (k : FT) (hall : LAll k) : LSpec a k := by
  intro w f n ho hk hn0 hn1
  obtain ⟨hkn, hkc, hcm, hkk⟩ := hk
  obtain ⟨-, e1, e2, e3, e4, e5, -, ok, hm, hsz, -⟩ := ho
  obtain ⟨o1, o2, o3, o4, o5⟩ := ok
  obtain ⟨kind, ka, kn, kc, desc, value, start, ma, mn, mc, fin, rule, dn⟩ := f
  simp only at e1 e2 e3 e4 e5 hkn hkc hcm hkk o1 o2 o3 o4 o5
  simp only [F9.arr]
  have hmh : Hid (SSl w (.slice ma mn mc) a.ms) := hm
  have hszh : Hid (sized a.ms) := hsz
  have hkh : Hid (k.len = 0 ∨ ∃ g' o', ka = some ⟨g', o', none⟩ ∧ FtCells w k g' (o' + 9 * 0)) := by show _ ∨ _; simpa using hkk
  have hallh : Hid (LAll k) := hall
  have hknh : Hid (kn = k.len) := hkn
  have hkm : kn ≤ 9223372036854775807 := by unfold maxLen at hcm; omega
  have hW : Hid (wtO a = 1 + desc.size + value.size + start.size + fin.size + rule.size + wtM a.ms) := by show _ = _; unfold wtO; rw [e1, e2, e3, e4, e5]
  generalize wtO a = WO at hW ⊢
  clear hm hsz hkk hall hkn hcm hkc e1 e2 e3 e4 e5
  have f0 : FlT (w.alloc (.cells #[.int .i8 kind, .slice ka kn kc, .string desc, .string value, .string start, .slice ma mn mc, .string fin, .string rule, .bool dn] 26)) w.heap.size ⟨kind, ka, kn, kc, desc, value, start, ma, mn, mc, fin, rule, dn⟩ := heap_alloc_new _ _
  have x0 := (Ext.refl w).alloc (.cells #[.int .i8 kind, .slice ka kn kc, .string desc, .string value, .string start, .slice ma mn mc, .string fin, .string rule, .bool dn] 26)
  go_enter Tryz.func27, Tryz.ntmps27
  go_upto_region 1 with fail
  generalize World.alloc w _ = w0 at f0 x0 ⊢
  generalize w.heap.size = HS at f0 ⊢
  obtain ⟨-, c1, c2, c3, c4, c5, c6, c7, -, -⟩ := f0.cells
  simp only at c1 c2 c3 c4 c5 c6 c7
  go_upto_region 2 with fail
  obtain ⟨m0, hm0⟩ : ∃ m0 : Int, n - 1 - (desc.size : Int) - (value.size : Int) - (start.size : Int) - (fin.size : Int) - (rule.size : Int) = m0 := ⟨_, rfl⟩
  have b0 : m0 ≤ n ∧ -10000000000000000 + 300000000000000 ≤ m0 := by omega
  have hm0h : Hid (m0 = n - 1 - (desc.size : Int) - (value.size : Int) - (start.size : Int) - (fin.size : Int) - (rule.size : Int)) := hm0.symm
  rw [hm0]
  clear hm0 c2 c3 c4 c6 c7
  obtain ⟨hln, hlc, hlm⟩ := hmh.out.len
  have hcm' : a.ms.length ≤ 9223372036854775807 := by unfold maxLen at hlm; omega
  have hlnh : Hid (mn = a.ms.length) := hln
  clear hln hlc hlm
  go_upto_block 0 with fail
  go_cut [1, 5] from 29 to 48 (fun u _ wx => ∃ m : Int, u = .int .i64 m ∧ m ≤ n ∧ -10000000000000000 + 10000000000 ≤ m ∧ Hid (0 ≤ m → m = m0 - (wtM a.ms : Nat)) ∧ wx = w0)
  case first =>
    go_wp2_with fail
    go_loopw [1, 5] (fun v1 v5 wr => ∃ (j : Nat) (m : Int), v1 = .int .i64 m ∧ v5 = .int .i64 j ∧ j ≤ a.ms.length ∧ m ≤ n ∧ -10000000000000000 + 10000000000 ≤ m ∧ Hid (0 ≤ m → m = m0 - (wtM (a.ms.take j) : Nat)) ∧ wr = w0) (fun _ v5 _ => a.ms.length - (intOf v5).toNat)
    case atStart => exact ⟨0, m0, rfl, rfl, Nat.zero_le _, b0.1, by omega, fun _ => by simp [wtM], rfl⟩
    case round =>
      obtain ⟨j, m, rfl, rfl, hj, hm1, hm2, hmw, rfl⟩ := hrel
      by_cases hlt : j < a.ms.length
      · have hlt' : (j : Int) < (mn : Int) := by have := hlnh.out; omega
        by_cases hmz : 0 ≤ m
        · obtain ⟨ga, oa, rfl, hc⟩ := (hmh.out.ext x0).at j hlt
          have hsz := hszh.out _ (List.getElem_mem hlt)
          have hnx : Hid (wtM (a.ms.take (j + 1)) = wtM (a.ms.take j) + (1 + a.ms[j].size)) := wtM_take a.ms j hlt
          generalize a.ms[j] = mm at hc hsz hnx
          have hmw2 : Hid (0 ≤ m - 1 - (mm.size : Int) → m - 1 - (mm.size : Int) = m0 - (wtM (a.ms.take (j + 1)) : Nat)) := fun _ => by have := hmw.out hmz; rw [hnx.out]; omega
          have hb1 : m - 1 - (mm.size : Int) ≤ n := by omega
          have hb2 : -10000000000000000 + 10000000000 ≤ m - 1 - (mm.size : Int) := by omega
          clear hmw hnx
          go_wp2
          go_roundw
          case rel => exact ⟨j + 1, m - 1 - (mm.size : Int), by go_num, by go_num, by omega, hb1, hb2, hmw2, by first | rfl | trivial⟩
          case measure => simp [intOf]; omega
        · have hmz' : ¬ (m : Int) ≥ 0 := by omega
          have hQ : Hid (0 ≤ m → m = m0 - (wtM a.ms : Nat)) := fun h => absurd h hmz
          clear hmw
          go_wp2
          go_meet
          exact ⟨m, rfl, hm1, hm2, hQ, rfl⟩
      · have hlt' : ¬ (j : Int) < (mn : Int) := by have := hlnh.out; omega
        have hQ : Hid (0 ≤ m → m = m0 - (wtM a.ms : Nat)) := fun h => by have := hmw.out h; rw [List.take_of_length_le (by omega)] at this; exact this
        clear hmw
        go_wp2
        go_meet
        exact ⟨m, rfl, hm1, hm2, hQ, rfl⟩
  case rest =>
  obtain ⟨m1, rfl, hm1, hm2, hmw1, rfl⟩ := hcut
  have hmwh : Hid (0 ≤ m1 → m1 = n - (WO : Nat)) := fun h => by have h1 := hmw1.out h; have h2 := hm0h.out; have h3 := hW.out; omega
  have x0h : Hid (Ext w wc) := x0
  clear hmw1 hm0h hW hlnh hcm' hmh hszh b0 c5 o1 o2 o3 o4 o5
  go_wp2_with fail
  go_loopw [1, 6] (fun v1 v6 wr => ∃ (j : Nat) (r : FT) (m : Int), v1 = .int .i64 m ∧ v6 = .int .i64 j ∧ j ≤ kn ∧ Hid (j + r.len = kn) ∧ Hid (LAll r) ∧ Hid (r.len = 0 ∨ ∃ g' o', ka = some ⟨g', o', none⟩ ∧ FtCells w r g' (o' + 9 * j)) ∧ m ≤ n ∧ -10000000000000000 ≤ m ∧ Hid (0 ≤ m → m - (wtF r : Nat) = n - (WO + wtF k : Nat)) ∧ FlT wr HS ⟨kind, ka, kn, kc, desc, value, start, ma, mn, mc, fin, rule, dn⟩ ∧ Hid (Ext w wr)) (fun _ v6 _ => kn - (intOf v6).toNat)
  case atStart => exact ⟨0, k, m1, rfl, rfl, Nat.zero_le _, by show _ = _; have := hknh.out; omega, hallh, hkh, hm1, by omega, fun h => by have := hmwh.out h; omega, f0, x0h⟩
  case round =>
    clear hallh hkh hknh hmwh f0 x0h hm1 hm2 c1 x0
    obtain ⟨j, r, m, rfl, rfl, hj, hjr, hA, hK, hm1, hm2, hmw, f2, xr⟩ := hrel
    obtain ⟨-, c1, -, -, -, -, -, -, -, -⟩ := f2.cells
    simp only at c1
    by_cases hlt : j < kn
    · have hlt' : (j : Int) < (kn : Int) := by omega
      by_cases hmz : 0 ≤ m
      · have hmz' : (m : Int) ≥ 0 := hmz
        obtain ⟨b3, k3, r3, rfl⟩ : ∃ a kids rest, r = .cons a kids rest := FT.pos (by have := hjr.out; omega)
        obtain ⟨g3, o3, rfl, ⟨f3, v3, u3, j3, j4, j5, j6⟩, t3⟩ : ∃ g' o', ka = some ⟨g', o', none⟩ ∧ FtCells w (.cons b3 k3 r3) g' (o' + 9 * j) := by
          rcases hK.out with h | h
          · simp [FT.len] at h
          · exact h
        have hcall := hA.out.1 wr f3 m (v3.ext xr.out) (FKids.ext ⟨j3, j4, j5, j6⟩ xr.out) hmz (by omega)
        obtain ⟨kind3, ka3, kn3, kc3, desc3, value3, start3, ma3, mn3, mc3, fin3, rule3, dn3⟩ := f3
        have e30 := xr.out.cell (u3 0 (by simp [F9.arr]))
        have e31 := xr.out.cell (u3 1 (by simp [F9.arr]))
        have e32 := xr.out.cell (u3 2 (by simp [F9.arr]))
        have e33 := xr.out.cell (u3 3 (by simp [F9.arr]))
        have e34 := xr.out.cell (u3 4 (by simp [F9.arr]))
        have e35 := xr.out.cell (u3 5 (by simp [F9.arr]))
        have e36 := xr.out.cell (u3 6 (by simp [F9.arr]))
        have e37 := xr.out.cell (u3 7 (by simp [F9.arr]))
        have e38 := xr.out.cell (u3 8 (by simp [F9.arr]))
        simp only [F9.arr, List.getElem_toArray, List.getElem_cons_zero, List.getElem_cons_succ, Nat.add_zero] at e30 e31 e32 e33 e34 e35 e36 e37 e38
        rw [show o3 + 9 * j = o3 + j * 9 by omega] at e30 e31 e32 e33 e34 e35 e36 e37 e38
        simp only [F9.arr] at hcall
        have t3h : Hid (FtCells w r3 g3 (o3 + 9 * j + 9)) := t3
        have hA2 : Hid (LAll r3) := hA.out.2
        have hjr2 : Hid (j + 1 + r3.len = kn) := by show _ = _; have := hjr.out; simp only [FT.len] at this; omega
        have hmw2 : Hid (∀ m2 : Int, 0 ≤ m2 → m2 ≤ m → (0 ≤ m2 → m2 = m - (wtO b3 + wtF k3 : Nat)) → m2 - (wtF r3 : Nat) = n - (WO + wtF k : Nat)) := fun m2 h1 _ h3 => by have h4 := hmw.out hmz; have h5 := h3 h1; rw [wtF_cons] at h4; omega
        clear t3 u3 v3 j3 j4 j5 j6 hA hK hmw hjr
        go_wp2_with fail
        go_at_call 27
        refine hcall.mono ?_
        rintro _ w4 ⟨⟨m4, rfl, h41, h42, h43⟩, x4⟩
        try dsimp only
        have f4 := f2.ext x4
        have x4h : Hid (Ext w w4) := xr.out.trans x4
        have hb1 : m4 ≤ n := by omega
        have hmw4 : Hid (0 ≤ m4 → m4 - (wtF r3 : Nat) = n - (WO + wtF k : Nat)) := fun h => hmw2.out m4 h h41 h43
        clear e30 e31 e32 e33 e34 e35 e36 e37 e38 hcall x4 xr f2 c1 hmw2 h43
        go_wp2
        go_roundw
        case rel => exact ⟨j + 1, r3, m4, rfl, by go_num, by omega, hjr2, hA2, .inr ⟨g3, o3, rfl, by rw [show o3 + 9 * (j + 1) = o3 + 9 * j + 9 by omega]; exact t3h.out⟩, hb1, h42, hmw4, f4, x4h⟩
        case measure => simp [intOf]; omega
      · have hmz' : ¬ (m : Int) ≥ 0 := by omega
        have hQ : Hid (0 ≤ m → m = n - (WO + wtF k : Nat)) := fun h => absurd h hmz
        clear hmw hA hK hjr
        go_wp2
        go_ret
        exact ⟨⟨m, rfl, hm1, hm2, hQ.out⟩, xr.out⟩
    · have hlt' : ¬ (j : Int) < (kn : Int) := by omega
      have hQ : Hid (0 ≤ m → m = n - (WO + wtF k : Nat)) := fun h => by
        have h1 := hmw.out h
        cases r with
        | nil => simpa [wtF] using h1
        | cons _ _ _ => have := hjr.out; simp only [FT.len] at this; omega
      clear hmw hA hK hjr
      go_wp2
      go_ret
      exact ⟨⟨m, rfl, hm1, hm2, hQ.out⟩, xr.out⟩
theorem left_all : ∀ x : FT, LAll x
  | .nil => trivial
  | .cons a k r => ⟨left_step a k (left_all k), left_all r⟩
/-- what heavy tells: what is not heavy holds no more than 2^24 -/
def HvE (a : OwnF) (k : FT) (e : Ending) : Prop := ∃ b : Bool, e = .returned (.bool b) ∧ (b = false → wtO a + wtF k ≤ 16777216)
set_option maxRecDepth 100000 in
set_option maxHeartbeats 4000000 in
theorem heavy_any (w : World) (f : F9) (a : OwnF) (k : FT) (ho : FOwn w f a) (hk : FKids w f k) :
    Calls Tryz.prog 14 #[.agg f.arr] w fun e w' => HvE a k e ∧ Ext w w' := by
  have hc := fun W (y : Ext w W) => left_step a k (left_all k) W f 16777216 (ho.ext y) (hk.ext y) (by decide) (by decide)
  clear ho hk
  obtain ⟨kind, ka, kn, kc, desc, value, start, ma, mn, mc, fin, rule, dn⟩ := f
  simp only [F9.arr] at hc ⊢
  have f0 : FlT (w.alloc (.cells #[.int .i8 kind, .slice ka kn kc, .string desc, .string value, .string start, .slice ma mn mc, .string fin, .string rule, .bool dn] 26)) w.heap.size ⟨kind, ka, kn, kc, desc, value, start, ma, mn, mc, fin, rule, dn⟩ := heap_alloc_new _ _
  have x0 := (Ext.refl w).alloc (.cells #[.int .i8 kind, .slice ka kn kc, .string desc, .string value, .string start, .slice ma mn mc, .string fin, .string rule, .bool dn] 26)
  go_enter Tryz.func14, Tryz.ntmps14
  go_upto_region 1 with fail
  generalize World.alloc w _ = w0 at f0 x0 ⊢
  generalize w.heap.size = HS at f0 ⊢
  obtain ⟨c0, c1, c2, c3, c4, c5, c6, c7, c8, -⟩ := f0.cells
  simp only at c0 c1 c2 c3 c4 c5 c6 c7 c8
  go_wp2_with fail
  go_at_call 27
  refine (hc w0 x0).mono ?_
  rintro _ w1 ⟨⟨m, rfl, h1, h2, h3⟩, x1⟩
  try dsimp only
  have h3h : Hid (0 ≤ m → m = 16777216 - (wtO a + wtF k : Nat)) := h3
  clear h3
  by_cases hm : m < 0
  · go_wp2
    go_ret
    exact ⟨⟨true, by first | rfl | (simp; omega), fun h => by cases h⟩, x0.trans x1⟩
  · have hQ : Hid (wtO a + wtF k ≤ 16777216) := by have := h3h.out (by omega); show _ ≤ _; omega
    go_wp2
    go_ret
    exact ⟨⟨false, by first | rfl | (simp; omega), fun _ => hQ.out⟩, x0.trans x1⟩
end Go.Proofs.YtoekmpnnmfaapaaGreatDoor
