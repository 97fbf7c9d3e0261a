/-
  A filter in memory; filter.isLong, isBare, arePieces, isRuled, isDn, whatever the filter.
-/
import Derived.Test.YtfkepclgadeeeaaGreatDoorZkd
import Derived.Test.YtfkepclgadeeeaaGreatDoorQE
import Derived.Laws.ResultCell
import Derived.Deep.DeepCutAuto
import Derived.Deep.RegionHeld3
namespace Go.Proofs.YtfkepclgadeeeaaGreatDoor
open Go.RowKit Go.Shelf

section
variable {w : World} {F : Nat} {f : F9}
end
/-- a slice of texts -/
def SSl (w : World) (v : Value) (l : List ByteArray) : Prop :=
  ∃ a cap, v = .slice a l.length cap ∧ l.length ≤ cap ∧ cap ≤ maxLen ∧ ∀ j (h : j < l.length), ∃ g o, a = some ⟨g, o, none⟩ ∧ w.cell? ⟨g, o + j, none⟩ = some (.string l[j])
theorem SSl.ext {w w' : World} {v : Value} {l : List ByteArray} (h : SSl w v l) (k : Ext w w') : SSl w' v l := by
  obtain ⟨a, cap, rfl, h1, h2, h3⟩ := h
  refine ⟨a, cap, rfl, h1, h2, fun j hj => ?_⟩
  obtain ⟨g, o, e, hc⟩ := h3 j hj
  exact ⟨g, o, e, k.cell hc⟩
theorem ssl_nil {w : World} {a : Option Addr} {n cap : Nat} (hn : n = 0) (h2 : cap ≤ maxLen) : SSl w (.slice a n cap) [] := by
  subst hn
  exact ⟨_, _, rfl, by simp, h2, fun j hj => by simp at hj⟩
theorem SSl.len {w : World} {a : Option Addr} {n cap : Nat} {l : List ByteArray} (h : SSl w (.slice a n cap) l) : n = l.length ∧ n ≤ cap ∧ cap ≤ maxLen := by
  obtain ⟨a', cap', e, h1, h2, _⟩ := h
  simp only [Value.slice.injEq] at e
  obtain ⟨_, rfl, rfl⟩ := e
  exact ⟨rfl, h1, h2⟩
theorem SSl.at {w : World} {a : Option Addr} {n cap : Nat} {l : List ByteArray} (h : SSl w (.slice a n cap) l) (j : Nat) (hj : j < l.length) : ∃ g o, a = some ⟨g, o, none⟩ ∧ w.cell? ⟨g, o + j, none⟩ = some (.string l[j]) := by
  obtain ⟨a', cap', e, h1, h2, h3⟩ := h
  simp only [Value.slice.injEq] at e
  obtain ⟨rfl, _, rfl⟩ := e
  exact h3 j hj
/-- the texts are not longer than memory -/
def sized (l : List ByteArray) : Prop := ∀ s ∈ l, s.size ≤ 281474976710656
structure F9.Ok (f : F9) : Prop where
  d : f.desc.size ≤ 281474976710656
  v : f.value.size ≤ 281474976710656
  s : f.start.size ≤ 281474976710656
  e : f.fin.size ≤ 281474976710656
  r : f.rule.size ≤ 281474976710656

def max5N (a b c d e : Nat) : Nat := max (max (max (max a b) c) d) e
theorem run_max5 (w : World) (a b c d e : Nat) : (Builtin.max_ #[3, 3, 3, 3, 3] 3 #[.int .i64 a, .int .i64 b, .int .i64 c, .int .i64 d, .int .i64 e]).run Tryz.prog w = .ok (.int .i64 (max5N a b c d e : Nat)) w := by
  have h2 : ∀ (x y : Nat), (Builtin.max2 (.int .i64 x) (.int .i64 y)).run Tryz.prog w = .ok (.int .i64 (max x y : Nat)) w := by
    intro x y
    have : ((max x y : Nat) : Int) = if (y : Int) > (x : Int) then (y : Int) else (x : Int) := by split <;> omega
    simp [Builtin.max2, this]
  simp [Builtin.max_, Sem.run_bind, h2, max5N]
/-- is one of the texts too long? -/
def longB (f : F9) (ms : List ByteArray) : Bool := decide (65536 < max5N f.desc.size f.value.size f.start.size f.fin.size f.rule.size) || ms.any (fun s => decide (65536 < s.size))

set_option maxRecDepth 100000 in
set_option maxHeartbeats 2000000 in
theorem isLong_any (w : World) (f : F9) (ms : List ByteArray) (hm : SSl w f.mids ms) : Calls Tryz.prog 44 #[.agg f.arr] w fun e w' => e = .returned (.bool (longB f ms)) ∧ Ext w w' := by
  obtain ⟨kind, ka, kn, kc, desc, value, start, ma, mn, mc, fin, rule, dn⟩ := f
  simp only [F9.arr, F9.mids] at hm ⊢
  have hL : Hid (longB ⟨kind, ka, kn, kc, desc, value, start, ma, mn, mc, fin, rule, dn⟩ ms = (decide (65536 < max5N desc.size value.size start.size fin.size rule.size) || ms.any (fun s => decide (65536 < s.size)))) := rfl
  have hm5 := fun w => run_max5 w desc.size value.size start.size fin.size rule.size
  have f0 : FlT (w.alloc (.cells #[.int .i8 kind, .slice ka kn kc, .string desc, .string value, .string start, .slice ma mn mc, .string fin, .string rule, .bool dn] 26)) w.heap.size ⟨kind, ka, kn, kc, desc, value, start, ma, mn, mc, fin, rule, dn⟩ := heap_alloc_new _ _
  have x0 := (Ext.refl w).alloc (.cells #[.int .i8 kind, .slice ka kn kc, .string desc, .string value, .string start, .slice ma mn mc, .string fin, .string rule, .bool dn] 26)
  go_enter Tryz.func44, Tryz.ntmps44
  go_upto_region 1 with fail
  generalize w.alloc (.cells #[.int .i8 kind, .slice ka kn kc, .string desc, .string value, .string start, .slice ma mn mc, .string fin, .string rule, .bool dn] 26) = w0 at f0 x0 ⊢
  obtain ⟨c0, c1, c2, c3, c4, c5, c6, c7, c8, fz⟩ := f0.cells
  simp only at c0 c1 c2 c3 c4 c5 c6 c7 c8
  have hm0 := hm.ext x0
  obtain ⟨hln, hlc, hcm⟩ := hm.len
  have hcm' : ms.length ≤ 9223372036854775807 := by unfold maxLen at hcm; omega
  have hlnh : Hid (mn = ms.length) := hln
  clear hln hlc hcm
  clear f0 hm c0 c1 c8
  generalize max5N desc.size value.size start.size fin.size rule.size = M at hm5 hL
  go_wp2
  clear hm5 c2 c3 c4 c5 c6 c7 fz
  go_loopw [3, 5, 25] (fun a _ i wr => ∃ (k L : Nat), k ≤ ms.length ∧ i = .int .i64 k ∧ a = .int .i64 L ∧ Hid (decide (65536 < L) = (decide (65536 < M) || (ms.take k).any (fun s => decide (65536 < s.size)))) ∧ wr = w0) (fun _ _ i _ => ms.length - (intOf i).toNat)
  case atStart => exact ⟨0, M, Nat.zero_le _, rfl, rfl, by show _ = _; simp, rfl⟩
  case round =>
    obtain ⟨k, L, hk, rfl, rfl, hI, rfl⟩ := hrel
    by_cases hlt : k < ms.length
    · obtain ⟨g, o, rfl, hc⟩ := hm0.at k hlt
      have hlt' : (k : Int) < (mn : Int) := by have := hlnh.out; omega
      have hI2 : Hid (decide (65536 < max L ms[k].size) = (decide (65536 < M) || (ms.take (k + 1)).any (fun s => decide (65536 < s.size)))) := by
        show _ = _
        rw [List.take_succ_eq_append_getElem hlt, List.any_append, ← Bool.or_assoc, ← hI.out]
        rw [Bool.eq_iff_iff]; simp; omega
      have hmx : ((max L ms[k].size : Nat) : Int) = if (ms[k].size : Int) > (L : Int) then (ms[k].size : Int) else (L : Int) := by split <;> omega
      have hmxh : Hid _ := hmx
      clear hmx hI
      generalize ms[k] = s at *
      go_wp2
      all_goals
        go_roundw
        case rel => exact ⟨k + 1, max L s.size, by omega, by go_num, by show Value.int _ _ = Value.int _ _; congr 1; have := hmxh.out; split <;> omega, hI2, by first | rfl | trivial⟩
        case measure => simp [intOf]; omega
    · have hlt' : ¬ (k : Int) < (mn : Int) := by have := hlnh.out; omega
      have hfin := hI.out
      rw [List.take_of_length_le (by omega)] at hfin
      have hfh : Hid _ := hfin
      clear hfin hI
      go_wp2
      go_ret
      refine ⟨ret_b ?_, x0⟩
      rw [hL.out, ← hfh.out]
      rw [Bool.eq_iff_iff]; simp; try omega
end Go.Proofs.YtfkepclgadeeeaaGreatDoor

/-
  filter.isBare, arePieces, isRuled, isDn, whatever the filter.
-/
namespace Go.Proofs.YtfkepclgadeeeaaGreatDoor
open Go.RowKit Go.Shelf

/-- nothing stands in it beside its kind -/
def bareFB (f : F9) : Bool := decide (f.desc.size + f.value.size + f.start.size + f.fin.size + f.rule.size = 0) && decide (f.kn = 0) && decide (f.mn = 0) && !f.dn

set_option maxRecDepth 100000 in
set_option maxHeartbeats 4000000 in
theorem isBare_any (w : World) (f : F9) (ho : f.Ok) : Calls Tryz.prog 67 #[.agg f.arr] w fun e w' => e = .returned (.bool (bareFB f)) ∧ Ext w w' := by
  obtain ⟨kind, ka, kn, kc, desc, value, start, ma, mn, mc, fin, rule, dn⟩ := f
  obtain ⟨o1, o2, o3, o4, o5⟩ := ho
  simp only at o1 o2 o3 o4 o5
  simp only [F9.arr]
  have hB : Hid (bareFB ⟨kind, ka, kn, kc, desc, value, start, ma, mn, mc, fin, rule, dn⟩ = (decide (desc.size + value.size + start.size + fin.size + rule.size = 0) && decide (kn = 0) && decide (mn = 0) && !dn)) := rfl
  have f0 : FlT (w.alloc (.cells #[.int .i8 kind, .slice ka kn kc, .string desc, .string value, .string start, .slice ma mn mc, .string fin, .string rule, .bool dn] 26)) w.heap.size ⟨kind, ka, kn, kc, desc, value, start, ma, mn, mc, fin, rule, dn⟩ := heap_alloc_new _ _
  have x0 := (Ext.refl w).alloc (.cells #[.int .i8 kind, .slice ka kn kc, .string desc, .string value, .string start, .slice ma mn mc, .string fin, .string rule, .bool dn] 26)
  go_enter Tryz.func67, Tryz.ntmps67
  go_upto_region 1 with fail
  generalize w.alloc (.cells #[.int .i8 kind, .slice ka kn kc, .string desc, .string value, .string start, .slice ma mn mc, .string fin, .string rule, .bool dn] 26) = w0 at f0 x0 ⊢
  obtain ⟨c0, c1, c2, c3, c4, c5, c6, c7, c8, fz⟩ := f0.cells
  simp only at c0 c1 c2 c3 c4 c5 c6 c7 c8
  clear f0 c0
  have s1 : IntKind.i64.wrap ((desc.size : Int) + (value.size : Int)) = ((desc.size + value.size : Nat) : Int) := by rw [IntKind.wrap_i64]; omega
  have s2 : IntKind.i64.wrap (((desc.size + value.size : Nat) : Int) + (start.size : Int)) = ((desc.size + value.size + start.size : Nat) : Int) := by rw [IntKind.wrap_i64]; omega
  have s3 : IntKind.i64.wrap (((desc.size + value.size + start.size : Nat) : Int) + (fin.size : Int)) = ((desc.size + value.size + start.size + fin.size : Nat) : Int) := by rw [IntKind.wrap_i64]; omega
  have s4 : IntKind.i64.wrap (((desc.size + value.size + start.size + fin.size : Nat) : Int) + (rule.size : Int)) = ((desc.size + value.size + start.size + fin.size + rule.size : Nat) : Int) := by rw [IntKind.wrap_i64]; omega
  generalize desc.size + value.size = p1 at *
  generalize p1 + start.size = p2 at *
  generalize p2 + fin.size = p3 at *
  generalize p3 + rule.size = p4 at *
  by_cases h4 : p4 = 0
  · have n4 : ((p4 : Int) == 0) = true := by simp; omega
    by_cases hk : kn = 0
    · have nk : ((kn : Int) == 0) = true := by simp; omega
      by_cases hm : mn = 0
      · have nm : ((mn : Int) == 0) = true := by simp; omega
        have hB2 : Hid (bareFB ⟨kind, ka, kn, kc, desc, value, start, ma, mn, mc, fin, rule, dn⟩ = !dn) := by show _ = _; rw [hB.out]; simp [h4, hk, hm]
        clear hB h4 hk hm
        go_wp2
        go_ret
        exact ⟨ret_b (by rw [hB2.out]), x0⟩
      · have nm : ((mn : Int) == 0) = false := by simp; omega
        have hB2 : Hid (bareFB ⟨kind, ka, kn, kc, desc, value, start, ma, mn, mc, fin, rule, dn⟩ = false) := by show _ = _; rw [hB.out]; simp [hm]
        clear hB h4 hk hm
        go_wp2
        go_ret
        exact ⟨ret_b (by rw [hB2.out]), x0⟩
    · have nk : ((kn : Int) == 0) = false := by simp; omega
      have hB2 : Hid (bareFB ⟨kind, ka, kn, kc, desc, value, start, ma, mn, mc, fin, rule, dn⟩ = false) := by show _ = _; rw [hB.out]; simp [hk]
      clear hB h4 hk
      go_wp2
      go_ret
      exact ⟨ret_b (by rw [hB2.out]), x0⟩
  · have n4 : ((p4 : Int) == 0) = false := by simp; omega
    have hB2 : Hid (bareFB ⟨kind, ka, kn, kc, desc, value, start, ma, mn, mc, fin, rule, dn⟩ = false) := by show _ = _; rw [hB.out]; simp [h4]
    clear hB h4
    go_wp2
    go_ret
    exact ⟨ret_b (by rw [hB2.out]), x0⟩

theorem txt_nil (s : ByteArray) : ([] == s.toList) = decide (s.size = 0) := by
  rw [toList_byt, ← byt_empty]
  cases byt s <;> rfl
theorem txt_nil' (s : ByteArray) : (s.toList == []) = decide (s.size = 0) := by
  rw [toList_byt, ← byt_empty]
  cases byt s <;> rfl
/-- is one of them empty? -/
def anyE (ms : List ByteArray) : Bool := ms.any (fun s => decide (s.size = 0))
theorem anyE_take (ms : List ByteArray) (k : Nat) (h : k < ms.length) : anyE (ms.take (k + 1)) = (anyE (ms.take k) || decide (ms[k].size = 0)) := by
  unfold anyE
  rw [List.take_succ_eq_append_getElem h, List.any_append]
  simp only [List.any_cons, List.any_nil, Bool.or_false]
theorem anyE_at (ms : List ByteArray) (k : Nat) (h : k < ms.length) (h0 : ms[k].size = 0) : anyE ms = true := by
  unfold anyE
  rw [List.any_eq_true]
  exact ⟨ms[k], List.getElem_mem h, decide_eq_true h0⟩
set_option maxRecDepth 100000 in
set_option maxHeartbeats 2000000 in
theorem slContains_any (w : World) (v : Value) (ms : List ByteArray) (hm : SSl w v ms) : Calls Tryz.prog 84 #[v, .string ⟨#[]⟩] w fun e w' => e = .returned (.bool (anyE ms)) ∧ w' = w := by
  have hI : Calls Tryz.prog 97 #[v, .string ⟨#[]⟩] w fun e w' => w' = w ∧ ((anyE ms = false ∧ e = .returned (.int .i64 (-1))) ∨ (anyE ms = true ∧ ∃ k : Nat, e = .returned (.int .i64 k))) := by
    obtain ⟨a, n, cap, rfl⟩ : ∃ a n cap, v = .slice a n cap := by obtain ⟨a, cap, e, _⟩ := hm; exact ⟨a, _, cap, e⟩
    obtain ⟨hln, hlc, hcm⟩ := hm.len
    have hcm' : ms.length ≤ 9223372036854775807 := by unfold maxLen at hcm; omega
    have hlnh : Hid (n = ms.length) := hln
    clear hln hlc hcm
    go_enter Tryz.func97, Tryz.ntmps97
    go_wp2
    go_loopw [5, 8] (fun _ i wr => ∃ k : Nat, k ≤ ms.length ∧ i = .int .i64 k ∧ Hid (anyE (ms.take k) = false) ∧ wr = w) (fun _ i _ => ms.length - (intOf i).toNat)
    case atStart => exact ⟨0, Nat.zero_le _, rfl, rfl, rfl⟩
    case round =>
      obtain ⟨k, hk, rfl, hA, rfl⟩ := hrel
      by_cases hlt : k < ms.length
      · obtain ⟨g, o, rfl, hc⟩ := hm.at k hlt
        have hlt' : (k : Int) < (n : Int) := by have := hlnh.out; omega
        have hh := txt_nil ms[k]
        by_cases h0 : ms[k].size = 0
        · rw [decide_eq_true h0] at hh
          have hY : Hid (anyE ms = true) := anyE_at ms k hlt h0
          clear h0 hA
          generalize ms[k] = s at *
          go_wp2
          go_ret
          exact ⟨rfl, .inr ⟨hY.out, k, rfl⟩⟩
        · rw [decide_eq_false h0] at hh
          have hN : Hid (anyE (ms.take (k + 1)) = false) := by
            show _ = _
            rw [anyE_take ms k hlt, hA.out, decide_eq_false h0]; rfl
          clear h0 hA
          generalize ms[k] = s at *
          go_wp2
          go_roundw
          case rel => exact ⟨k + 1, by omega, by go_num, hN, by first | rfl | trivial⟩
          case measure => simp [intOf]; omega
      · have hlt' : ¬ (k : Int) < (n : Int) := by have := hlnh.out; omega
        have hA2 := hA.out
        rw [List.take_of_length_le (by omega)] at hA2
        have hA2h : Hid (anyE ms = false) := hA2
        clear hA hA2
        go_wp2
        go_ret
        exact ⟨rfl, .inl ⟨hA2h.out, rfl⟩⟩
  go_enter Tryz.func84, Tryz.ntmps84
  go_wp2_with fail
  go_at_call 97
  refine hI.mono ?_
  rintro _ _ ⟨rfl, h⟩
  rcases h with ⟨h1, rfl⟩ | ⟨h1, k, rfl⟩
  · have h1h : Hid (_ = false) := h1
    clear h1
    go_wp2
    go_ret
    exact ⟨ret_b (by first | exact h1h.out.symm | (rw [h1h.out]; rfl)), rfl⟩
  · have h1h : Hid (_ = true) := h1
    clear h1
    go_wp2
    go_ret
    exact ⟨ret_b (by first | exact h1h.out.symm | (rw [h1h.out]; simp)), rfl⟩
/-- pieces, none in the middle empty -/
def piecesB (s : ByteArray) (ms : List ByteArray) (e : ByteArray) : Bool := (!decide (s.size = 0) || decide (0 < ms.length) || !decide (e.size = 0)) && !anyE ms
set_option maxRecDepth 100000 in
set_option maxHeartbeats 2000000 in
theorem arePieces_any (w : World) (s e : ByteArray) (v : Value) (ms : List ByteArray) (hm : SSl w v ms) : Calls Tryz.prog 65 #[.string s, v, .string e] w fun x w' => x = .returned (.bool (piecesB s ms e)) ∧ w' = w := by
  have hc := slContains_any w v ms hm
  have hV : Hid (piecesB s ms e = ((!decide (s.size = 0) || decide (0 < ms.length) || !decide (e.size = 0)) && !anyE ms)) := rfl
  generalize anyE ms = z at hc hV
  have n1 := txt_nil' s
  have n2 := txt_nil' e
  obtain ⟨a, n, cap, rfl⟩ : ∃ a n cap, v = .slice a n cap := by obtain ⟨a, cap, e, _⟩ := hm; exact ⟨a, _, cap, e⟩
  obtain ⟨hln, hlc, hcm⟩ := hm.len
  rw [← hln] at hV
  clear hm hln hlc hcm
  by_cases h1 : s.size = 0
  · rw [decide_eq_true h1] at n1 hV
    clear h1
    by_cases h2 : 0 < n
    · rw [decide_eq_true h2] at hV
      have h2' : (0 : Int) < (n : Int) := by omega
      clear h2
      go_enter Tryz.func65, Tryz.ntmps65
      go_wp2_with (go_at_call 84; refine hc.mono ?_; rintro e w2 ⟨rfl, rfl⟩)
      go_ret
      exact ⟨ret_b (by rw [hV.out]; simp), rfl⟩
    · rw [decide_eq_false h2] at hV
      obtain rfl : n = 0 := by omega
      clear h2
      by_cases h3 : e.size = 0
      · rw [decide_eq_true h3] at n2 hV
        clear h3
        go_enter Tryz.func65, Tryz.ntmps65
        go_wp2_with (go_at_call 84; refine hc.mono ?_; rintro e w2 ⟨rfl, rfl⟩)
        go_ret
        exact ⟨ret_b (by rw [hV.out]; simp), rfl⟩
      · rw [decide_eq_false h3] at n2 hV
        clear h3
        go_enter Tryz.func65, Tryz.ntmps65
        go_wp2_with (go_at_call 84; refine hc.mono ?_; rintro e w2 ⟨rfl, rfl⟩)
        go_ret
        exact ⟨ret_b (by rw [hV.out]; simp), rfl⟩
  · rw [decide_eq_false h1] at n1 hV
    clear h1
    go_enter Tryz.func65, Tryz.ntmps65
    go_wp2_with (go_at_call 84; refine hc.mono ?_; rintro e w2 ⟨rfl, rfl⟩)
    go_ret
    exact ⟨ret_b (by rw [hV.out]; simp), rfl⟩

def dnB (l : List UInt8) : Bool := l == [100, 110] || l == [100, 78] || l == [68, 110] || l == [68, 78]
set_option maxRecDepth 100000 in
set_option maxHeartbeats 2000000 in
theorem isDn_any (s : ByteArray) (w : World) : Calls Tryz.prog 85 #[.string s] w fun x w' => x = .returned (.bool (dnB (byt s))) ∧ w' = w := by
  have hV : Hid (dnB (byt s) = (s.toList == [100, 110] || s.toList == [100, 78] || s.toList == [68, 110] || s.toList == [68, 78])) := by show _ = _; rw [toList_byt]; rfl
  cases h1 : (s.toList == [100, 110]) <;> cases h2 : (s.toList == [100, 78]) <;> cases h3 : (s.toList == [68, 110]) <;> cases h4 : (s.toList == [68, 78])
  all_goals
    rw [h1, h2, h3, h4] at hV
    go_enter Tryz.func85, Tryz.ntmps85
    go_wp2
    go_ret
    exact ⟨ret_b hV.out.symm, rfl⟩
/-- a rule's word, and a description or none -/
def ruledB (d r : ByteArray) : Bool := if r.size = 0 then kDesc (byt d) else if dnB (byt r) then false else kWord (byt r) && (decide (d.size = 0) || kDesc (byt d))
set_option maxRecDepth 100000 in
set_option maxHeartbeats 2000000 in
theorem isRuled_any (d r : ByteArray) (hd : d.size ≤ 281474976710656) (hr : r.size ≤ 281474976710656) (w : World) : Calls Tryz.prog 66 #[.string d, .string r] w fun x w' => x = .returned (.bool (ruledB d r)) ∧ Ext w w' := by
  have hD := fun w => isDesc_any d hd w
  have hN := fun w => isDn_any r w
  have hW := fun w => isWord_any r hr w
  have hV : Hid (ruledB d r = if r.size = 0 then kDesc (byt d) else if dnB (byt r) then false else kWord (byt r) && (decide (d.size = 0) || kDesc (byt d))) := rfl
  have n1 := txt_nil' r
  have n2 := txt_nil' d
  clear hd hr
  generalize kDesc (byt d) = z at hD hV
  by_cases h1 : r.size = 0
  · rw [decide_eq_true h1] at n1
    rw [if_pos h1] at hV
    clear h1
    go_enter Tryz.func66, Tryz.ntmps66
    go_wp2_with (go_at_call 64; refine (hD _).mono ?_; rintro e w2 ⟨rfl, x2⟩)
    go_ret
    exact ⟨ret_b hV.out.symm, x2⟩
  · rw [decide_eq_false h1] at n1
    rw [if_neg h1] at hV
    clear h1
    cases h2 : dnB (byt r) with
    | true =>
      rw [h2] at hN
      rw [h2, if_pos rfl] at hV
      clear h2
      go_enter Tryz.func66, Tryz.ntmps66
      go_wp2_with (go_at_call 85; refine (hN _).mono ?_; rintro e w2 ⟨rfl, rfl⟩)
      go_ret
      exact ⟨ret_b hV.out.symm, Ext.refl _⟩
    | false =>
      rw [h2] at hN
      rw [h2, if_neg (by decide)] at hV
      clear h2
      cases h3 : kWord (byt r) with
      | false =>
        rw [h3] at hW hV
        clear h3
        go_enter Tryz.func66, Tryz.ntmps66
        go_wp2_with (first | (go_at_call 85; refine (hN _).mono ?_; rintro e w2 ⟨rfl, rfl⟩) | (go_at_call 82; refine (hW _).mono ?_; rintro e w2 ⟨rfl, x2⟩))
        go_ret
        exact ⟨ret_b (by rw [hV.out]; rfl), x2⟩
      | true =>
        rw [h3] at hW hV
        clear h3
        by_cases h4 : d.size = 0
        · rw [decide_eq_true h4] at n2 hV
          clear h4
          go_enter Tryz.func66, Tryz.ntmps66
          go_wp2_with (first | (go_at_call 85; refine (hN _).mono ?_; rintro e w2 ⟨rfl, rfl⟩) | (go_at_call 82; refine (hW _).mono ?_; rintro e w2 ⟨rfl, x2⟩))
          go_ret
          exact ⟨ret_b (by rw [hV.out]; rfl), x2⟩
        · rw [decide_eq_false h4] at n2 hV
          clear h4
          go_enter Tryz.func66, Tryz.ntmps66
          go_wp2_with (first | (go_at_call 85; refine (hN _).mono ?_; rintro e w2 ⟨rfl, rfl⟩) | (go_at_call 82; refine (hW _).mono ?_; rintro e w2 ⟨rfl, x2⟩) | (go_at_call 64; refine (hD _).mono ?_; rintro e w3 ⟨rfl, x3⟩))
          go_ret
          exact ⟨ret_b (by rw [hV.out]; simp), x2.trans x3⟩
end Go.Proofs.YtfkepclgadeeeaaGreatDoor
