/-
  What the document writes of pieces and of kids (written by gen/mkye.py).
-/
import Derived.Test.YtffaenlbdapleaaGreatDoorYe
namespace Go.Proofs.YtffaenlbdapleaaGreatDoor
open Go.RowKit

theorem midsF_take (ms : List ByteArray) (k : Nat) (h : k < ms.length) : (midsC (ms.take (k + 1))).flatten = (midsC (ms.take k)).flatten ++ escL (byt ms[k]) ++ [42] := by
  unfold midsC
  rw [List.take_succ_eq_append_getElem h, List.flatMap_append]
  simp
theorem midsF_le (ms : List ByteArray) (k : Nat) : (midsC (ms.take k)).flatten.length ≤ (midsC ms).flatten.length := by
  have e : midsC ms = midsC (ms.take k) ++ midsC (ms.drop k) := by unfold midsC; rw [← List.flatMap_append, List.take_append_drop]
  rw [e, List.flatten_append, List.length_append]; omega
/-- how deep -/
def htF : FT → Nat
  | .nil => 0
  | .cons _ k r => max (htF k + 1) (htF r)
theorem ht_cons (a : OwnF) (k r : FT) : htF (.cons a k r) = max (htF k + 1) (htF r) := rfl
theorem chk_ht : ∀ (x : FT) (L n d : Nat), (chk x L n d).1 = 0 → htF x = 0 ∨ htF x + L ≤ 65
  | .nil, _, _, _, _ => .inl rfl
  | .cons a k r, L, n, d, h => by
    obtain ⟨h0, h1⟩ := chk_two h
    rw [h1] at h
    obtain ⟨h2, h3, h4, h5, h6⟩ := chk1_level h0
    rw [h6] at h0
    have i1 := chk_ht k (L + 1) _ _ h0
    have i2 := chk_ht r L _ _ h
    right
    unfold htF
    omega
theorem check_ht {a : OwnF} {k : FT} (h : (checkL a k).1 = 0) : htF k ≤ 64 := by
  unfold checkL at h
  by_cases h0 : (chk1 a k 1 0 0).1 = 0
  · obtain ⟨h2, h3, h4, h5, h6⟩ := chk1_level h0
    rw [h6] at h0
    have := chk_ht k 2 _ _ h0
    omega
  · rw [if_neg h0] at h; exact absurd h h0
set_option maxRecDepth 100000 in
set_option maxHeartbeats 4000000 in
theorem dw_4 (w : World) (B : Nat) (v : Value) (l : List UInt8) (ka : Option Addr) (kn kc : Nat) (desc value start : ByteArray) (ma : Option Addr) (mn mc : Nat) (fin rule : ByteArray) (dn : Bool) (ho : Own w B v l) (hBw : B ≤ w.heap.size) (hl : l.length ≤ 1100000) (ms : List ByteArray) (hm : ∀ W, Fr B w W → SSl W (.slice ma mn mc) ms) (hd : desc.size ≤ 65536) (hs : start.size ≤ 65536) (he : fin.size ≤ 65536) (hms : ∀ m ∈ ms, m.size ≤ 65536) (CC : List UInt8) (hC : Hid (CC = [40] ++ byt desc ++ [61] ++ escL (byt start) ++ [42] ++ (midsC ms).flatten ++ escL (byt fin) ++ [41])) :
    Calls Tryz.prog 29 #[v, .agg #[.int .i8 4, .slice ka kn kc, .string desc, .string value, .string start, .slice ma mn mc, .string fin, .string rule, .bool dn]] w (WrO B w l CC) := by
  have hE1 := fun W => REscape_any W start (by omega)
  have hE2 := fun W => REscape_any W fin (by omega)
  have hv1 := escS_len start hs
  have hv2 := escS_len fin he
  obtain ⟨e1, he1⟩ : ∃ ev, Hid (ev = escL (byt start)) := ⟨_, rfl⟩
  obtain ⟨e2, he2⟩ : ∃ ev, Hid (ev = escL (byt fin)) := ⟨_, rfl⟩
  rw [← he1.out] at hE1 hv1 hC
  rw [← he2.out] at hE2 hv2 hC
  have hmh : Hid (∀ W, Fr B w W → SSl W (.slice ma mn mc) ms) := hm
  have hmsh : Hid (∀ m ∈ ms, m.size ≤ 65536) := hms
  clear hm hms he1 he2
  have f0 : FlT (w.alloc (.cells #[.int .i8 4, .slice ka kn kc, .string desc, .string value, .string start, .slice ma mn mc, .string fin, .string rule, .bool dn] 26)) w.heap.size ⟨4, ka, kn, kc, desc, value, start, ma, mn, mc, fin, rule, dn⟩ := heap_alloc_new _ _
  have x0 := (Ext.refl w).alloc (.cells #[.int .i8 4, .slice ka kn kc, .string desc, .string value, .string start, .slice ma mn mc, .string fin, .string rule, .bool dn] 26)
  have o0 := ho.alloc (.cells #[.int .i8 4, .slice ka kn kc, .string desc, .string value, .string start, .slice ma mn mc, .string fin, .string rule, .bool dn] 26)
  have k0 := x0.fr hBw
  have b0 := Nat.le_trans hBw x0.size
  go_enter Tryz.func29, Tryz.ntmps29
  go_upto_region 1 with fail
  generalize World.alloc w _ = w0 at f0 x0 o0 k0 b0 ⊢
  generalize w.heap.size = HS at f0 ⊢
  clear ho x0
  go_wp2_with (at_builtin; refine Hid.out ?_)
  refine wpList_push rfl _ _ rfl w0 B v (l) [40] _ o0 b0 rfl 1 1 rfl rfl rfl (by simp only [List.length_cons, List.length_nil]; omega) ?_
  intro v1 w1 o1 r1
  have f1 := f0.fr r1
  have b1 := Nat.le_trans b0 r1.size
  have k1 := k0.trans r1
  clear r1
  obtain ⟨c0, -, -, -, c4, -, -, -, -, -⟩ := f1.cells
  simp only at c0 c4
  go_wp2_with fail
  go_at_call 48
  refine (hE1 w1).mono ?_
  rintro _ w2 ⟨rfl, r2⟩
  try dsimp only
  have f2 := f1.fr r2
  have o2 : Own w2 B v1 (l ++ [40]) := o1.below r2.1
  have b2 := Nat.le_trans b1 r2.size
  have k2 := k1.trans (r2.mono b1)
  have ses : (str e1).size ≤ 196608 := by rw [← byt_length, byt_str]; assumption
  have tes : Hid (byt (str e1) = e1) := byt_str e1
  clear hE1 r2 f1 o1 c0 c4
  generalize str e1 = es at ses tes ⊢
  obtain ⟨-, -, -, -, -, -, c6, -, -, -⟩ := f2.cells
  simp only at c6
  go_wp2_with fail
  go_at_call 48
  refine (hE2 w2).mono ?_
  rintro _ w3 ⟨rfl, r3⟩
  try dsimp only
  have f3 := f2.fr r3
  have o3 : Own w3 B v1 (l ++ [40]) := o2.below r3.1
  have b3 := Nat.le_trans b2 r3.size
  have k3 := k2.trans (r3.mono b2)
  have sef : (str e2).size ≤ 196608 := by rw [← byt_length, byt_str]; assumption
  have tef : Hid (byt (str e2) = e2) := byt_str e2
  clear hE2 r3 f2 o2 c6
  generalize str e2 = ef at sef tef ⊢
  obtain ⟨-, -, c2, -, -, -, -, -, -, -⟩ := f3.cells
  simp only at c2
  go_wp2_with (at_builtin; refine Hid.out ?_)
  refine wpList_pushS rfl _ _ rfl B v1 (l ++ [40]) o3 b3 rfl desc rfl (by simp only [List.length_append, List.length_cons, List.length_nil]; omega) ?_
  intro v4 w4 o4 r4
  have f4 := f3.fr r4
  have b4 := Nat.le_trans b3 r4.size
  have k4 := k3.trans r4
  clear r4
  clear c2
  go_wp2_with (at_builtin; refine Hid.out ?_)
  refine wpList_push rfl _ _ rfl w4 B v4 (l ++ [40] ++ byt desc) [61] _ o4 b4 rfl 1 1 rfl rfl rfl (by simp only [List.length_append, List.length_cons, List.length_nil, byt_length]; omega) ?_
  intro v5 w5 o5 r5
  have f5 := f4.fr r5
  have b5 := Nat.le_trans b4 r5.size
  have k5 := k4.trans r5
  clear r5
  go_wp2_with (at_builtin; refine Hid.out ?_)
  refine wpList_pushS rfl _ _ rfl B v5 (l ++ [40] ++ byt desc ++ [61]) o5 b5 rfl es rfl (by simp only [List.length_append, List.length_cons, List.length_nil, byt_length]; omega) ?_
  intro v6 w6 o6 r6
  have f6 := f5.fr r6
  have b6 := Nat.le_trans b5 r6.size
  have k6 := k5.trans r6
  clear r6
  go_wp2_with (at_builtin; refine Hid.out ?_)
  refine wpList_push rfl _ _ rfl w6 B v6 (l ++ [40] ++ byt desc ++ [61] ++ byt es) [42] _ o6 b6 rfl 1 1 rfl rfl rfl (by simp only [List.length_append, List.length_cons, List.length_nil, byt_length]; omega) ?_
  intro v7 w7 o7 r7
  have f7 := f6.fr r7
  have b7 := Nat.le_trans b6 r7.size
  have k7 := k6.trans r7
  clear r7
  obtain ⟨P, hP⟩ : ∃ P, l ++ [40] ++ byt desc ++ [61] ++ byt es ++ [42] = P := ⟨_, rfl⟩
  have hPl : Hid (P.length ≤ 1500000) := by show _ ≤ _; rw [← hP]; simp only [List.length_append, List.length_cons, List.length_nil, byt_length]; omega
  have hCC : Hid (l ++ CC = P ++ (midsC ms).flatten ++ e2 ++ [41]) := by show _ = _; rw [hC.out, ← hP, tes.out]; simp only [List.append_assoc]
  rw [hP] at o7
  clear hP hC o4 o5 o6 f4 f5 f6 tes ses hv1
  obtain ⟨hln, hlc, hcm⟩ := (hmh.out _ k7).len
  have hcm' : ms.length ≤ 9223372036854775807 := by unfold maxLen at hcm; omega
  have hlnh : Hid (mn = ms.length) := hln
  clear hln hlc hcm
  obtain ⟨a7, c7, rfl⟩ := o7.shape
  obtain ⟨n7, hn7⟩ : ∃ n : Nat, Hid (n = P.length) := ⟨_, rfl⟩
  rw [← hn7.out] at o7 ⊢
  have o7h : Hid (Own w7 B (.slice a7 n7 c7) P) := o7
  clear o7
  go_upto_block 3 with fail
  go_cut [0, 10] from 85 to 108 (fun u _ wx => ∃ m, Own wx B u m ∧ Hid (m.length ≤ 1500000) ∧ Hid (m = P ++ (midsC ms).flatten ∨ (1048576 < m.length ∧ m.length ≤ (P ++ (midsC ms).flatten).length)) ∧ Fr B w wx ∧ B ≤ wx.heap.size)
  case first =>
    go_wp2_with fail
    go_loopw [0, 10] (fun v0 v10 wr => ∃ (k n c : Nat) (a : Option Addr), v0 = .slice a n c ∧ v10 = .int .i64 k ∧ k ≤ ms.length ∧ Hid (n = (P ++ (midsC (ms.take k)).flatten).length) ∧ Hid (Own wr B (.slice a n c) (P ++ (midsC (ms.take k)).flatten)) ∧ Hid (n ≤ 1500000) ∧ FlT wr HS ⟨4, ka, kn, kc, desc, value, start, ma, mn, mc, fin, rule, dn⟩ ∧ Fr B w wr ∧ B ≤ wr.heap.size) (fun _ v10 _ => ms.length - (intOf v10).toNat)
    case atStart => exact ⟨0, n7, c7, a7, rfl, rfl, Nat.zero_le _, by show _ = _; rw [hn7.out]; simp [midsC], by show Own _ _ _ _; simpa [midsC] using o7h.out, by have := hPl.out; rw [← hn7.out] at this; exact this, f7, k7, b7⟩
    case round =>
      clear o7h hn7 f7 k7 b7 hPl
      obtain ⟨k, n, c, a, rfl, rfl, hk, hn, ho, hnl, f7, k7, b7⟩ := hrel
      obtain ⟨-, -, -, -, -, c5, -, -, -, -⟩ := f7.cells
      simp only at c5
      by_cases hlt : k < ms.length
      · have hlt' : (k : Int) < (mn : Int) := by have := hlnh.out; omega
        by_cases hfl : n ≤ 1048576
        · have hfl' : (n : Int) ≤ 1048576 := by omega
          obtain ⟨ga, oa, rfl, hc⟩ := (hmh.out _ k7).at k hlt
          have hsz := hmsh.out _ (List.getElem_mem hlt)
          have hnx : Hid (P ++ (midsC (ms.take (k + 1))).flatten = P ++ (midsC (ms.take k)).flatten ++ escL (byt ms[k]) ++ [42]) := by show _ = _; rw [midsF_take ms k hlt]; simp only [List.append_assoc]
          have hem := escS_len _ hsz
          have hEm := fun W => REscape_any W ms[k] (by omega)
          generalize ms[k] = mm at hc hsz hnx hem hEm
          generalize escL (byt mm) = em at hnx hem hEm
          generalize P ++ (midsC (ms.take k)).flatten = Pk at hn ho hnx
          go_wp2_with fail
          go_at_call 48
          refine (hEm wr).mono ?_
          rintro _ w8 ⟨rfl, r8⟩
          try dsimp only
          have f8 := f7.fr r8
          have o8 : Own w8 B (.slice a n c) Pk := ho.out.below r8.1
          have b8 := Nat.le_trans b7 r8.size
          have k8 := k7.trans (r8.mono b7)
          have sz8 : (str em).size ≤ 196608 := by rw [← byt_length, byt_str]; assumption
          have tz8 : Hid (byt (str em) = em) := byt_str em
          generalize str em = ez at sz8 tz8 ⊢
          have hnn := hn.out
          have hPk : Pk.length ≤ 1048576 := by omega
          clear hEm r8 f7 ho c5 hc hsz b7 k7 hnn
          go_wp2_with (at_builtin; refine Hid.out ?_)
          refine wpList_pushS rfl _ _ rfl B (.slice a n c) (Pk) o8 b8 rfl ez rfl (by omega) ?_
          intro v9 w9 o9 r9
          have f9 := f8.fr r9
          have b9 := Nat.le_trans b8 r9.size
          have k9 := k8.trans r9
          clear r9
          go_wp2_with (at_builtin; refine Hid.out ?_)
          refine wpList_push rfl _ _ rfl w9 B v9 (Pk ++ byt ez) [42] _ o9 b9 rfl 1 1 rfl rfl rfl (by simp only [List.length_append, List.length_cons, List.length_nil, byt_length]; omega) ?_
          intro v10 w10 o10 r10
          have f10 := f9.fr r10
          have b10 := Nat.le_trans b9 r10.size
          have k10 := k9.trans r10
          clear r10
          obtain ⟨a1, c1, rfl⟩ := o10.shape
          obtain ⟨n1, hn1⟩ : ∃ n : Nat, Hid (n = (Pk ++ byt ez ++ [(42 : UInt8)]).length) := ⟨_, rfl⟩
          rw [← hn1.out] at o10 ⊢
          have hnl2 : Hid (n1 ≤ 1500000) := by show _ ≤ _; rw [hn1.out]; simp only [List.length_append, List.length_cons, List.length_nil, byt_length]; omega
          have o10h : Hid (Own w10 B (.slice a1 n1 c1) (P ++ (midsC (ms.take (k + 1))).flatten)) := by show Own _ _ _ _; rw [hnx.out, ← tz8.out]; exact o10
          have hn1h : Hid (n1 = (P ++ (midsC (ms.take (k + 1))).flatten).length) := by show _ = _; rw [hnx.out, ← tz8.out]; exact hn1.out
          clear o10 hn1 hnx tz8 sz8 hem hn hnl o8 o9 f8 f9 k8 k9 b8 b9 hPk
          go_wp2
          go_roundw
          case rel => exact ⟨k + 1, n1, c1, a1, rfl, by go_num, by omega, hn1h, o10h, hnl2, f10, k10, b10⟩
          case measure => simp [intOf]; omega
        · have hfl' : ¬ (n : Int) ≤ 1048576 := by omega
          have hQ : Hid ((P ++ (midsC (ms.take k)).flatten) = P ++ (midsC ms).flatten ∨ (1048576 < (P ++ (midsC (ms.take k)).flatten).length ∧ (P ++ (midsC (ms.take k)).flatten).length ≤ (P ++ (midsC ms).flatten).length)) := by
            right
            have h1 := hn.out
            have h2 := midsF_le ms k
            refine ⟨by omega, ?_⟩
            rw [List.length_append, List.length_append]; omega
          have hl2 : Hid ((P ++ (midsC (ms.take k)).flatten).length ≤ 1500000) := by show _ ≤ _; rw [← hn.out]; exact hnl.out
          clear hn hnl
          go_wp2
          go_meet
          exact ⟨_, ho.out, hl2, hQ, k7, b7⟩
      · have hlt' : ¬ (k : Int) < (mn : Int) := by have := hlnh.out; omega
        have hQ : Hid ((P ++ (midsC (ms.take k)).flatten) = P ++ (midsC ms).flatten ∨ (1048576 < (P ++ (midsC (ms.take k)).flatten).length ∧ (P ++ (midsC (ms.take k)).flatten).length ≤ (P ++ (midsC ms).flatten).length)) := by
          left; rw [List.take_of_length_le (by omega)]
        have hl2 : Hid ((P ++ (midsC (ms.take k)).flatten).length ≤ 1500000) := by show _ ≤ _; rw [← hn.out]; exact hnl.out
        clear hn hnl
        go_wp2
        go_meet
        exact ⟨_, ho.out, hl2, hQ, k7, b7⟩
  case rest =>
  obtain ⟨m8, o8, hm8, hQ, k8, b8⟩ := hcut
  generalize wc = w8 at o8 k8 b8 ⊢
  clear f7 k7 b7 o7h hn7 hPl hlnh hmsh hmh hcm' f3
  have hm8l := hm8.out
  go_wp2_with (at_builtin; refine Hid.out ?_)
  refine wpList_pushS rfl _ _ rfl B _ m8 o8 b8 rfl ef rfl (by omega) ?_
  intro v9 w9 o9 r9
  have b9 := Nat.le_trans b8 r9.size
  have k9 := k8.trans r9
  rw [tef.out] at o9
  have hml : Hid ((m8 ++ e2).length ≤ 3000000) := by show _ ≤ _; rw [List.length_append]; omega
  have hF1 : Hid ((l ++ CC).length ≤ 1048576 → m8 ++ e2 ++ [41] = l ++ CC) := fun h => by
    rw [hCC.out] at h ⊢
    rcases hQ.out with rfl | ⟨h1, h2⟩
    · rfl
    · simp only [List.length_append, List.length_cons, List.length_nil] at h h2; omega
  have hF2 : Hid ((m8 ++ e2 ++ [41]).length ≤ 1048576 → (l ++ CC).length ≤ 1048576) := fun h => by
    rw [hCC.out]
    rcases hQ.out with rfl | ⟨h1, h2⟩
    · exact h
    · simp only [List.length_append, List.length_cons, List.length_nil] at h; omega
  obtain ⟨m, hm⟩ : ∃ m, m8 ++ e2 = m := ⟨_, rfl⟩
  rw [hm] at o9 hml hF1 hF2
  clear hm hQ hCC hm8 hm8l o8 r9 tef sef hv2
  have hlx : (m).length + [(41 : UInt8)].length ≤ 140737488355328 := by have := hml.out; simp only [List.length_cons, List.length_nil]; omega
  go_wp2_with (at_builtin; refine Hid.out ?_)
  refine wpList_push rfl _ _ rfl w9 B v9 (m) [41] _ o9 b9 rfl 1 1 rfl rfl rfl hlx ?_
  intro v10 w10 o10 r10
  have b10 := Nat.le_trans b9 r10.size
  have k10 := k9.trans r10
  clear r10
  obtain ⟨aZ, cZ, rfl⟩ := o10.shape
  obtain ⟨nZ, hnZ⟩ : ∃ n : Nat, Hid (n = (m ++ [(41 : UInt8)]).length) := ⟨_, rfl⟩
  have oz : Hid (Own w10 B (.slice aZ nZ cZ) (m ++ [41])) := by rw [hnZ.out]; exact o10
  rw [← hnZ.out]
  have hlz : Hid ((m ++ [41]).length ≤ 4000000) := by have := hml.out; show _ ≤ _; rw [List.length_append]; simp only [List.length_cons, List.length_nil]; omega
  by_cases hfit : (l ++ CC).length ≤ 1048576
  · have hle : (nZ : Int) ≤ 1048576 := by have h1 := hF1.out hfit; have h2 := hnZ.out; rw [h1] at h2; omega
    have hdec : decide ((l ++ CC).length ≤ 1048576) = true := decide_eq_true hfit
    clear o10 hml
    go_wp2
    go_ret2
    exact ⟨.slice aZ nZ cZ, _, by rw [hdec]; rfl, oz.out, fun h => hF1.out h, hlz.out, k10⟩
  · have hle : ¬ (nZ : Int) ≤ 1048576 := by have h2 := hnZ.out; intro hc; exact hfit (hF2.out (by omega))
    have hdec : decide ((l ++ CC).length ≤ 1048576) = false := decide_eq_false hfit
    clear o10 hml
    go_wp2
    go_ret2
    exact ⟨.slice aZ nZ cZ, _, by rw [hdec]; rfl, oz.out, fun h => hF1.out h, hlz.out, k10⟩
end Go.Proofs.YtffaenlbdapleaaGreatDoor
