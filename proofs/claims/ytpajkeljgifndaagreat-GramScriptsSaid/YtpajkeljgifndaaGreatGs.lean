/-
  addRow: the grams of a row of symbols, put behind others.
-/
import Derived.Test.YtpajkeljgifndaaGreatGr
namespace Go.Proofs.YtpajkeljgifndaaGreat
open Go.RowKit Go.Shelf

def byt (s : ByteArray) : List UInt8 := s.data.toList
theorem byt_length (s : ByteArray) : (byt s).length = s.size := Array.length_toList
theorem byt_at (s : ByteArray) (k : Nat) (h : k < s.size) : (byt s)[k]'(by rw [byt_length]; exact h) = s[k] := by
  simp [byt]; rfl
theorem idx_run (s : ByteArray) (k : Nat) (h : k < s.size) (wx : World) : (Instr.index 9 (.string s) (.int .i64 (k : Int))).run Tryz.prog wx = .ok (.int .u8 s[k].toNat) wx := by
  simp [go_sem, h]
/-- the closure's state behind the start and k bytes -/
def rowK (st : Bool) (s : List UInt8) (l : List UInt32) (k : Nat) : Nat × Nat × List UInt32 := ((if st then [256] else []) ++ (s.take k).map (fun b : UInt8 => b.toNat)).foldl G3.nx (0, 0, l)
theorem rowK_succ (st : Bool) (s : ByteArray) (l : List UInt32) (k : Nat) (h : k < s.size) : rowK st (byt s) l (k + 1) = G3.nx (rowK st (byt s) l k) s[k].toNat := by
  unfold rowK
  rw [List.take_succ_eq_append_getElem (by rw [byt_length]; exact h), byt_at s k h]
  simp only [List.map_append, List.map_cons, List.map_nil, ← List.append_assoc, List.foldl_append, List.foldl_cons, List.foldl_nil]
theorem rowK_b (st : Bool) (s : List UInt8) (l : List UInt32) (k : Nat) : (rowK st s l k).2.1 ≤ k + 1 ∧ (rowK st s l k).2.2.length ≤ l.length + k + 1 := by
  have h1 := G3.nx_n ((if st then [256] else []) ++ (s.take k).map (fun b : UInt8 => b.toNat)) (0, 0, l)
  have h2 := G3.nx_l ((if st then [256] else []) ++ (s.take k).map (fun b : UInt8 => b.toNat)) (0, 0, l)
  have h3 : ((if st then [256] else []) ++ (s.take k).map (fun b : UInt8 => b.toNat)).length ≤ k + 1 := by
    cases st <;> simp <;> omega
  simp only [Nat.zero_add] at h1 h2
  unfold rowK
  omega
theorem rowK_end (st : Bool) (s : ByteArray) (l : List UInt32) : (rowK st (byt s) l s.size).2.2 = l ++ G3.tri (G3.sym st (byt s) false) ∧ (G3.nx (rowK st (byt s) l s.size) 257).2.2 = l ++ G3.tri (G3.sym st (byt s) true) := by
  have h1 : (byt s).take s.size = byt s := List.take_of_length_le (by rw [byt_length]; exact Nat.le_refl _)
  refine ⟨?_, ?_⟩
  · rw [← G3.nx_tri _ l (G3.sym_lt st false (byt s))]
    unfold rowK
    rw [h1]
    simp [G3.sym]
  · rw [← G3.nx_tri _ l (G3.sym_lt st true (byt s))]
    unfold rowK
    rw [h1]
    simp [G3.sym]
/-- the closure's state as one thing -/
def NxS (w : World) (m B0 B1 B2 : Nat) (x : Nat × Nat × List UInt32) : Prop := NxAt w m B0 B1 B2 x.1 x.2.1 x.2.2
theorem next_s (w : World) (m B0 B1 B2 : Nat) (y : Nat × Nat × List UInt32) (h : NxS w m B0 B1 B2 y) (hm : m ≤ B0 ∧ m ≤ B1 ∧ m ≤ B2) (x : Nat) (hx : x < 512) (hn : y.2.1 ≤ 17592186044415) (hl : y.2.2.length ≤ 17592186044415) :
    Calls Tryz.prog 46 #[.int .u32 (x : Int), .pointer (some ⟨B2, 0, none⟩), .pointer (some ⟨B1, 0, none⟩), .pointer (some ⟨B0, 0, none⟩)] w fun e w' => e = .returned (.tuple #[]) ∧ Hid (NxS w' m B0 B1 B2 (G3.nx y x) ∧ Only (fun k => m ≤ k) w w') := by
  refine (next_any w m B0 B1 B2 _ _ _ h hm x hx hn hl).mono ?_
  rintro e w' ⟨rfl, h1, h2⟩
  exact ⟨rfl, h1, h2⟩
set_option maxRecDepth 100000 in
set_option maxHeartbeats 4000000 in
theorem addRow_any (w : World) (m : Nat) (u : Value) (l : List UInt32) (st : Bool) (s : ByteArray) (en : Bool) (hr : RowE 38 U3 w (fun k => m ≤ k) u l) (hm : m ≤ w.heap.size) (hl : l.length + s.size ≤ 17592186044000) :
    Calls Tryz.prog 33 #[u, .bool st, .string s, .bool en] w fun e w' => ∃ u', e = .returned u' ∧ RowE 38 U3 w' (fun k => m ≤ k) u' (l ++ G3.tri (G3.sym st (byt s) en)) ∧ Only (fun k => m ≤ k) w w' := by
  have hrh : Hid (RowE 38 U3 w (fun k => m ≤ k) u l) := hr
  obtain ⟨ua, un, uc, rfl, _⟩ := hr.sl.shape
  obtain ⟨B0, hB0⟩ : ∃ B, B = w.heap.size := ⟨_, rfl⟩
  obtain ⟨B1, hB1⟩ : ∃ B, B = w.heap.size + 1 := ⟨_, rfl⟩
  obtain ⟨B2, hB2⟩ : ∃ B, B = w.heap.size + 1 + 1 := ⟨_, rfl⟩
  have hmh : Hid (m ≤ B0 ∧ m ≤ B1 ∧ m ≤ B2) := ⟨by omega, by omega, by omega⟩
  have hlh : Hid (l.length + s.size ≤ 17592186044000) := hl
  clear hr hm hl
  go_enter Tryz.func33, Tryz.ntmps33
  go_upto_region 2 with fail
  obtain ⟨wa, hwa, hA⟩ : ∃ wa, (((w.alloc (.cells #[.slice ua un uc] 31)).alloc (.cells #[.int .i64 0] 3)).alloc (.cells #[.int .u32 0] 38)) = wa ∧ Hid (NxS wa m B0 B1 B2 (0, 0, l) ∧ Only (fun k => m ≤ k) w wa) := by
    have e1 : (w.alloc (.cells #[.slice ua un uc] 31)).heap.size = B1 := by rw [hB1]; simp
    have e2 : ((w.alloc (.cells #[.slice ua un uc] 31)).alloc (.cells #[.int .i64 0] 3)).heap.size = B2 := by rw [hB2]; simp
    refine ⟨_, rfl, ⟨?_, ?_, .slice ua un uc, ?_, ?_, ?_⟩, ?_⟩
    · rw [← e2]; exact Boxed.new _ _ _
    · rw [← e1]; exact (Boxed.new _ _ _).alloc _
    · rw [hB0]; exact ((Boxed.new _ _ _).alloc _).alloc _
    · exact ((Row.alloc hrh.out _).alloc _).alloc _
    · intro h9
      have := Row.lt hrh.out h9
      omega
    · exact ((Only.refl _ w).alloc _).alloc _ |>.alloc _
  rw [hwa, ← hB2, ← hB1, ← hB0]
  have hN := fun wx y (h : NxS wx m B0 B1 B2 y) => next_s wx m B0 B1 B2 y h hmh.out
  clear hwa hB0 hB1 hB2 hrh
  go_upto_if 14 with fail
  go_cut [] (fun wc => Hid (NxS wc m B0 B1 B2 (rowK st (byt s) l 0) ∧ Only (fun k => m ≤ k) w wc))
  case first =>
    cases st with
    | true =>
      have h1 := hN _ _ hA.out.1 256 (by omega) (by simp) (by have := hlh.out; simp only; omega)
      go_wp2_with (go_at_call 46; refine h1.mono ?_; rintro _ w1 ⟨rfl, hx⟩)
      go_meet
      case rel => exact ⟨by simpa [rowK] using hx.out.1, hA.out.2.then hx.out.2⟩
    | false =>
      go_wp2
      go_meet
      case rel => exact ⟨by simpa [rowK] using hA.out.1, hA.out.2⟩
  case rest =>
    go_wp2
    go_loopw [12, 19] (fun _ i wr => ∃ k : Nat, k ≤ s.size ∧ i = .int .i64 k ∧ Hid (NxS wr m B0 B1 B2 (rowK st (byt s) l k) ∧ Only (fun q => m ≤ q) w wr)) (fun _ i _ => s.size - (intOf i).toNat)
    case atStart => exact ⟨0, Nat.zero_le _, rfl, hcut⟩
    case round =>
      obtain ⟨k, hk, rfl, HA⟩ := hrel
      have hb := rowK_b st (byt s) l k
      by_cases hlt : k < s.size
      · have hlt' : (k : Int) < (s.size : Int) := by omega
        have hix : ∀ wx, (Instr.index 9 (.string s) (.int .i64 k)).run Tryz.prog wx = .ok (.int .u8 s[k].toNat) wx := idx_run s k hlt
        have hst : Hid (rowK st (byt s) l (k + 1) = G3.nx (rowK st (byt s) l k) s[k].toNat) := rowK_succ st s l k hlt
        have hq : s[k].toNat < 256 := s[k].toNat_lt
        generalize s[k].toNat = q at hix hst hq
        have h1 := hN _ _ HA.out.1 q (by omega) (by have := hlh.out; omega) (by have := hlh.out; omega)
        have hqm : (q : Int) % 4294967296 = (q : Int) := by omega
        have hk44 : k < 17592186044000 := by have := hlh.out; omega
        clear hb
        go_wp2_with (go_at_call 46; refine h1.mono ?_; rintro _ w1 ⟨rfl, hx⟩)
        go_roundw
        case rel => exact ⟨k + 1, hlt, by go_num, by rw [hst.out]; exact hx.out.1, HA.out.2.then hx.out.2⟩
        case measure => simp [intOf]; omega
      · obtain rfl : k = s.size := by omega
        have he := rowK_end st s l
        have hlt' : ¬ (s.size : Int) < (s.size : Int) := by omega
        clear hk hlt
        cases en with
        | true =>
          have h1 := hN _ _ HA.out.1 257 (by omega) (by have := hlh.out; omega) (by have := hlh.out; omega)
          have heh : Hid _ := he.2
          clear he hb
          go_wp2_with (go_at_call 46; refine h1.mono ?_; rintro _ w1 ⟨rfl, hx⟩; obtain ⟨⟨_, _, u9, b9, r9, _⟩, o9⟩ := hx.out; have c9 := b9.cell; obtain ⟨va, vn, vc, rfl, _⟩ := r9.sl.shape)
          go_ret
          exact ⟨_, rfl, by rw [← heh.out]; exact r9, HA.out.2.then o9⟩
        | false =>
          have heh : Hid _ := he.1
          obtain ⟨⟨_, _, u9, b9, r9, _⟩, o9⟩ := HA.out
          have c9 := b9.cell
          obtain ⟨va, vn, vc, rfl, _⟩ := r9.sl.shape
          clear he hb
          go_wp2
          go_ret
          exact ⟨_, rfl, by rw [← heh.out]; exact r9, o9⟩
end Go.Proofs.YtpajkeljgifndaaGreat
