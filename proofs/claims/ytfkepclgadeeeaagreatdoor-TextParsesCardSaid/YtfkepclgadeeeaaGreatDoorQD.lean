/-
  The contract of Unhex: the text whose Hex it is handed, or ErrHex.
-/
import Derived.Test.YtfkepclgadeeeaaGreatDoorQA
import Derived.Test.YtfkepclgadeeeaaGreatDoorQC
import Derived.Deep.LoopGhost
import Derived.Deep.QuietTactic
import Derived.BigQuiet
import Derived.Lib.AppendStr
namespace Go.Proofs.YtfkepclgadeeeaaGreatDoor
open Go.RowKit

theorem shl4_or (h l : Nat) (hh : h < 16) (hl : l < 16) : bits .or .u8 ((h : Int) * 16) (l : Int) = ((16 * h + l : Nat) : Int) := by
  have e := u8_or_nat (h * 16) l (by omega) (by omega)
  rw [nat_join 4 (h * 16) l (by omega) (by omega)] at e
  rw [show ((h : Int) * 16) = ((h * 16 : Nat) : Int) by omega, e]
  omega

end Go.Proofs.YtfkepclgadeeeaaGreatDoor

/-
  The contract of escaped: the byte that the two digits behind a backslash say.
-/
namespace Go.Proofs.YtfkepclgadeeeaaGreatDoor
open Go.RowKit

theorem adig_lt (c x : Nat) (h : adig c = some x) : x < 16 := by
  unfold adig at h; split at h
  · cases h; omega
  · exact sdig_lt c x h
theorem adigV_lt (c : Nat) : adigV c < 16 := by
  unfold adigV; cases h : adig c with
  | none => exact (by decide)
  | some x => exact adig_lt c x h

def escdB (l : List UInt8) : Bool := match l with | x :: y :: _ => adigB x.toNat && adigB y.toNat | _ => false
def escdV (l : List UInt8) : UInt8 := match l with | x :: y :: _ => byte2 (adigV x.toNat) (adigV y.toNat) | _ => 0

set_option maxRecDepth 100000 in
set_option maxHeartbeats 1000000 in
theorem escaped_any (w : World) (s : ByteArray) :
    Calls Tryz.prog 110 #[.string s] w fun e w' => e = .returned (.tuple #[.int .u8 (escdV (byt s)).toNat, .bool (escdB (byt s))]) ∧ w' = w := by
  by_cases hn : s.size < 2
  · have hn' : (s.size : Int) < 2 := by omega
    have HV : Hid (escdV (byt s) = 0 ∧ escdB (byt s) = false) := by
      have hl := byt_length s
      show escdV (byt s) = 0 ∧ escdB (byt s) = false
      cases hb : byt s with
      | nil => exact ⟨rfl, rfl⟩
      | cons a t => cases t with
        | nil => exact ⟨rfl, rfl⟩
        | cons b r => rw [hb] at hl; simp at hl; omega
    go_enter Tryz.func110, Tryz.ntmps110
    go_wp2
    go_ret2
    exact ⟨ret_ib (by rw [HV.out.1]; rfl) HV.out.2.symm, rfl⟩
  · have h0 : 0 < s.size := by omega
    have h1 : 1 < s.size := by omega
    have hn' : (2 : Int) ≤ (s.size : Int) := by omega
    have hb : byt s = s[0] :: s[1] :: (byt s).drop 2 := by have := drop_two s 0 h1; simpa using this
    have HV : Hid (escdV (byt s) = byte2 (adigV s[0].toNat) (adigV s[1].toNat) ∧ escdB (byt s) = (adigB s[0].toNat && adigB s[1].toNat)) := by
      show escdV (byt s) = _ ∧ escdB (byt s) = _
      rw [hb]; exact ⟨rfl, rfl⟩
    have hor := shl4_or (adigV s[0].toNat) (adigV s[1].toNat) (adigV_lt _) (adigV_lt _)
    have HB : Hid _ := byte2_toNat _ _ (adigV_lt s[0].toNat) (adigV_lt s[1].toNat)
    have b1 : (adigV s[0].toNat : Int) < 16 := by have := adigV_lt s[0].toNat; omega
    have b2 : (adigV s[1].toNat : Int) < 16 := by have := adigV_lt s[1].toNat; omega
    clear hb
    cases ha : adigB s[0].toNat
    all_goals
      rw [ha] at HV
      go_enter Tryz.func110, Tryz.ntmps110
      go_wp2_with (go_at_call 118; refine (anyDigit_any _ (UInt8.toNat_lt _) _).mono ?_; rintro e w' ⟨rfl, rfl⟩)
      go_ret2
      refine ⟨ret_ib ?_ ?_, rfl⟩
      · rw [HV.out.1, HB.out]; omega
      · rw [HV.out.2]; simp
end Go.Proofs.YtfkepclgadeeeaaGreatDoor

/-
  The contract of width: how many bytes the character at a text's beginning has.
-/
namespace Go.Proofs.YtfkepclgadeeeaaGreatDoor
open Go.RowKit

theorem Fr.drewN {B : Nat} {a w : World} (h : Fr B a w) (n : Nat) : Fr B a (w.drewN n) := ⟨below_drewN h.1 n, fun k o h1 h2 h3 => h.2 k o h1 h2 h3⟩

/-- the table's cells -/
structure Tab (w : World) (g off cap : Nat) : Prop where
  var : w.cell? ⟨1, 0, none⟩ = some (.slice (some ⟨g, off, none⟩) 9 cap)
  c0 : ∀ k : Nat, k < 9 → w.cell? ⟨g, off + k * 5, none⟩ = some (.int .u8 (rowF k))
  c1 : ∀ k : Nat, k < 9 → w.cell? ⟨g, off + k * 5 + 1, none⟩ = some (.int .u8 (rowL k))
  c2 : ∀ k : Nat, k < 9 → w.cell? ⟨g, off + k * 5 + 2, none⟩ = some (.int .u8 (rowA k))
  c3 : ∀ k : Nat, k < 9 → w.cell? ⟨g, off + k * 5 + 3, none⟩ = some (.int .u8 (rowZ k))
  c4 : ∀ k : Nat, k < 9 → w.cell? ⟨g, off + k * 5 + 4, none⟩ = some (.int .i64 (rowW k))

set_option maxRecDepth 100000 in
set_option maxHeartbeats 1000000 in
theorem width_any (w : World) (g off cap : Nat) (ht : Tab w g off cap) (s : ByteArray) (hs : 0 < s.size) (hs2 : s.size ≤ 140737488355328) :
    Calls Tryz.prog 98 #[.string s] w fun e w' => e = .returned (.int .i64 (wid (byt s))) ∧ Fr w.heap.size w w' := by
  have hv := ht.var
  have hw0 : Hid _ := wid_byt s hs
  have hg : g < w.heap.size := World.block_lt_of_cell? w _ (ht.c0 0 (by omega))
  go_enter Tryz.func98, Tryz.ntmps98
  go_wp2
  go_step3
  go_wp2
  go_step3
  go_wp2
  clear hv
  go_loopw [10] (fun i wr => ∃ k : Nat, k ≤ 9 ∧ i = .int .i64 k ∧ wid (byt s) = widGo (byt s) s[0].toNat (9 - k) k ∧ Fr w.heap.size w wr) (fun i _ => 9 - (intOf i).toNat)
  case atStart => exact ⟨0, Nat.zero_le _, rfl, hw0.out, Fr.refl _ _⟩
  case round =>
    obtain ⟨k, hk, rfl, hsp, hfr⟩ := hrel
    have HS : Hid _ := hsp
    clear hsp
    by_cases hlt : k < 9
    · have c0 := (hfr.1.cell (p := ⟨g, off + k * 5, none⟩) hg).trans (ht.c0 k hlt)
      have c1 := (hfr.1.cell (p := ⟨g, off + k * 5 + 1, none⟩) hg).trans (ht.c1 k hlt)
      have c2 := (hfr.1.cell (p := ⟨g, off + k * 5 + 2, none⟩) hg).trans (ht.c2 k hlt)
      have c3 := (hfr.1.cell (p := ⟨g, off + k * 5 + 3, none⟩) hg).trans (ht.c3 k hlt)
      have c4 := (hfr.1.cell (p := ⟨g, off + k * 5 + 4, none⟩) hg).trans (ht.c4 k hlt)
      have hbd := row_bd k
      by_cases ha : s[0].toNat < rowF k
      · have hi : (s[0].toNat : Int) < (rowF k : Int) := by omega
        go_wp2
        go_quiet (fail)
        go_wp2
        go_roundw
        case rel =>
          refine ⟨k + 1, by omega, by go_num, ?_, ?_⟩
          · rw [HS.out, show 9 - k = (9 - (k + 1)) + 1 by omega, widGo, if_neg (by simp [inRow]; omega)]
          · exact (hfr.alloc hfr.size _).drewN nq
        case measure => simp [intOf]; omega
      · have hi : decide ((s[0].toNat : Int) < (rowF k : Int)) = false := by simp; omega
        by_cases hz : rowL k < s[0].toNat
        · have hj : (rowL k : Int) < (s[0].toNat : Int) := by omega
          go_wp2
          go_quiet (fail)
          go_wp2
          go_roundw
          case rel =>
            refine ⟨k + 1, by omega, by go_num, ?_, ?_⟩
            · rw [HS.out, show 9 - k = (9 - (k + 1)) + 1 by omega, widGo, if_neg (by simp [inRow]; omega)]
            · exact (hfr.alloc hfr.size _).drewN nq
          case measure => simp [intOf]; omega
        · have hj : decide ((rowL k : Int) < (s[0].toNat : Int)) = false := by simp; omega
          have HT : Hid (wid (byt s) = widAt (byt s) k) := by
            show wid (byt s) = widAt (byt s) k
            rw [HS.out, show 9 - k = (9 - (k + 1)) + 1 by omega, widGo, if_pos (by simp [inRow]; omega)]
          by_cases hn : s.size < rowW k
          · have hn' : (s.size : Int) < (rowW k : Int) := by omega
            go_wp2
            go_quiet (fail)
            go_wp2
            try rw [Exit.noGoto_ret]
            go_ret
            exact ⟨ret_i (by rw [HT.out, widAt_short _ _ (by rw [byt_length]; exact hn)]; rfl), (hfr.alloc hfr.size _).drewN nq⟩
          · have hn' : (rowW k : Int) ≤ (s.size : Int) := by omega
            go_wp2
            go_quiet (fail)
            go_wp2
            go_quiet (fail)
            go_wp2
            go_loop [5, 6, 7] (fun a z i => ∃ j : Nat, 1 ≤ j ∧ j ≤ rowW k ∧ a = .int .u8 (lowOf k j) ∧ z = .int .u8 (highOf k j) ∧ i = .int .i64 j ∧ ∀ m, 1 ≤ m → m < j → tl (byt s) k m = true) (fun _ _ i => rowW k - (intOf i).toNat)
            case atStart => exact ⟨1, by omega, rowW_pos k hlt, rfl, rfl, rfl, fun m h1 h2 => by omega⟩
            case round =>
              obtain ⟨j, hj1, hj2, rfl, rfl, rfl, hall⟩ := hrel
              have HA : Hid _ := hall
              clear hall
              by_cases hjw : j < rowW k
              · have hjs : j < s.size := by omega
                have hjw' : (j : Int) < (rowW k : Int) := by omega
                have HB : Hid _ := tl_byt s k j hjs
                by_cases hl : s[j].toNat < lowOf k j
                · have hl' : (s[j].toNat : Int) < (lowOf k j : Int) := by omega
                  go_wp2
                  try rw [Exit.noGoto_ret]
                  go_ret
                  exact ⟨ret_i (by rw [HT.out, widAt_bad _ _ j hj1 hjw (by rw [HB.out]; simp; omega)]; rfl), (hfr.alloc hfr.size _).drewN _⟩
                · have hl' : decide ((s[j].toNat : Int) < (lowOf k j : Int)) = false := by simp; omega
                  by_cases hh : highOf k j < s[j].toNat
                  · have hh' : (highOf k j : Int) < (s[j].toNat : Int) := by omega
                    go_wp2
                    try rw [Exit.noGoto_ret]
                    go_ret
                    exact ⟨ret_i (by rw [HT.out, widAt_bad _ _ j hj1 hjw (by rw [HB.out]; simp; omega)]; rfl), (hfr.alloc hfr.size _).drewN _⟩
                  · have hh' : decide ((highOf k j : Int) < (s[j].toNat : Int)) = false := by simp; omega
                    go_wp2
                    go_round
                    case rel =>
                      refine ⟨_, _, _, ⟨j + 1, by omega, by omega, rfl, rfl, rfl, ?_⟩, by rw [lowOf, if_neg (by omega)]; rfl, by rw [highOf, if_neg (by omega)]; rfl, by go_num⟩
                      · intro m h1 h2
                        by_cases hm : m < j
                        · exact HA.out m h1 hm
                        · obtain rfl : m = j := by omega
                          rw [HB.out]; simp; omega
                    case measure => simp [intOf]; omega
              · obtain rfl : j = rowW k := by omega
                go_wp2
                try rw [Exit.noGoto_ret]
                go_ret
                exact ⟨ret_i (by rw [HT.out, widAt_good _ _ (by rw [byt_length]; omega) HA.out]), (hfr.alloc hfr.size _).drewN _⟩
    · have hk9 : k = 9 := by omega
      subst hk9
      go_wp2
      try rw [Exit.noGoto_ret]
      go_ret
      exact ⟨ret_i (by rw [HS.out]; rfl), hfr⟩
end Go.Proofs.YtfkepclgadeeeaaGreatDoor

/-
  The contract of Valid: whether no byte of a text stands alone.
-/
namespace Go.Proofs.YtfkepclgadeeeaaGreatDoor
open Go.RowKit

theorem Tab.below {w w' : World} {g off cap B : Nat} (h : Tab w g off cap) (hb : Below B w w') (hB : w.heap.size ≤ B) : Tab w' g off cap := by
  have hg : g < B := Nat.lt_of_lt_of_le (World.block_lt_of_cell? w _ (h.c0 0 (by omega))) hB
  have h0 : 1 < B := Nat.lt_of_lt_of_le (World.block_lt_of_cell? w _ h.var) hB
  exact ⟨(hb.cell (p := ⟨1, 0, none⟩) h0).trans h.var, fun k hk => (hb.cell (p := ⟨g, _, none⟩) hg).trans (h.c0 k hk), fun k hk => (hb.cell (p := ⟨g, _, none⟩) hg).trans (h.c1 k hk),
    fun k hk => (hb.cell (p := ⟨g, _, none⟩) hg).trans (h.c2 k hk), fun k hk => (hb.cell (p := ⟨g, _, none⟩) hg).trans (h.c3 k hk), fun k hk => (hb.cell (p := ⟨g, _, none⟩) hg).trans (h.c4 k hk)⟩
theorem Fr.iterAt {a w : World} {B : Nat} (h : Fr B a w) {k : Nat} (hB : B ≤ k) (hk : a.heap.size ≤ k) (s : ByteArray) (pos : Nat) : Fr B a (w.iterAt k s pos) := by
  refine ⟨Lib.below_iterAt h.1 hB s pos, fun i o h1 h2 h3 => ?_⟩
  have hi : i < a.heap.size := (Array.getElem?_eq_some_iff.1 h1).1
  rw [Lib.iterAt_other w k i s pos (by omega)]
  exact h.2 i o h1 h2 h3

/-- an iterator behind a call that was made in the world with the iterator moved on -/
theorem iter_kept {wr w2 : World} {IT : Nat} {s : ByteArray} {pos p2 : Nat} (hit : wr.heap[IT]? = some (.stringIter s pos)) (hf : Fr (wr.iterAt IT s p2).heap.size (wr.iterAt IT s p2) w2) : w2.heap[IT]? = some (.stringIter s p2) := by
  have hlt : IT < wr.heap.size := (Array.getElem?_eq_some_iff.1 hit).1
  rw [hf.1.block IT (by rw [Lib.iterAt_size]; exact hlt)]
  exact Lib.iterAt_heap wr IT s pos p2 hit
theorem fr_iter_call {w wr w2 : World} {IT B : Nat} {s : ByteArray} {p2 : Nat} (hfr : Fr B w wr) (hB : B ≤ IT) (hI : w.heap.size ≤ IT) (hBw : B ≤ w.heap.size) (hf : Fr (wr.iterAt IT s p2).heap.size (wr.iterAt IT s p2) w2) : Fr B w w2 :=
  (hfr.iterAt hB hI s p2).trans (hf.mono (by rw [Lib.iterAt_size]; exact Nat.le_trans hBw hfr.size))

end Go.Proofs.YtfkepclgadeeeaaGreatDoor

/-
  An owned slice of bytes beside a string's iterator; a string's bytes appended.
-/
namespace Go.Proofs.YtfkepclgadeeeaaGreatDoor
open Go.RowKit

theorem Own.below {w w' : World} {B : Nat} {v : Value} {l : List UInt8} (h : Own w B v l) (hb : Below w.heap.size w w') : Own w' B v l := by
  refine ⟨h.1, ?_⟩
  rcases h.2 with h2 | ⟨g, cap, cur, hv, hg, hh, r⟩
  · exact .inl h2
  · exact .inr ⟨g, cap, cur, hv, hg, by rw [hb.block g (Array.getElem?_eq_some_iff.1 hh).1]; exact hh, r⟩
theorem Own.iterAt {w : World} {B : Nat} {v : Value} {l : List UInt8} (h : Own w B v l) {k : Nat} {s : ByteArray} {pos : Nat} (hk : w.heap[k]? = some (.stringIter s pos)) (p2 : Nat) : Own (w.iterAt k s p2) B v l := by
  refine ⟨h.1, ?_⟩
  rcases h.2 with h2 | ⟨g, cap, cur, hv, hg, hh, r⟩
  · exact .inl h2
  · have hne : g ≠ k := by intro e; rw [e, hk] at hh; cases hh
    exact .inr ⟨g, cap, cur, hv, hg, by rw [Lib.iterAt_other w k g s p2 hne]; exact hh, r⟩
theorem Fr.iter {B : Nat} {w w' : World} (h : Fr B w w') {k : Nat} {s : ByteArray} {pos : Nat} (hk : w.heap[k]? = some (.stringIter s pos)) : w'.heap[k]? = some (.stringIter s pos) :=
  h.2 k _ hk (fun e => by cases e) (fun _ _ e => by cases e)
/-- an owned slice behind a call that was made in the world with the iterator moved on -/
theorem own_kept {wr w2 : World} {IT B : Nat} {v : Value} {l : List UInt8} {s : ByteArray} {pos p2 : Nat} (h : Own wr B v l) (hit : wr.heap[IT]? = some (.stringIter s pos)) (hf : Fr (wr.iterAt IT s p2).heap.size (wr.iterAt IT s p2) w2) : Own w2 B v l :=
  (h.iterAt hit p2).below hf.1

/-- 'append(v, s...)', s a string -/
theorem wpList_pushS {w : World} {ops : Array Oper} {rest : List Oper} {o : Oper} {a : Act} {Q : Exit → Act → World → Prop} (hgd : o.guard = none) (sl x : Operand)
    (ho : o.op = .call { callee := .builtin .append, args := #[sl, x], argTypes := #[78, 9] })
    (B : Nat) (v : Value) (l : List UInt8) (hown : Own w B v l) (hB : B ≤ w.heap.size) (hs : a.eval sl = v) (s : ByteArray) (hx : a.eval x = .string s) (hlen : l.length + s.size ≤ 140737488355328)
    (h : ∀ v' w', Own w' B v' (l ++ byt s) → Fr B w w' → wpList Tryz.prog ops Q rest (a.put o.dst v') w') : wpList Tryz.prog ops Q (o :: rest) a w := by
  obtain ⟨i0, hi0, hz0, hz1, hz2⟩ := info_parts info8
  refine Lib.wpList_append_own_string _ hgd sl x 78 9 ho B 5 i0 Tryz.underlying78 Tryz.underlying9 hi0 hz0 hz1 hz2 v l.length (l.map B8) hs hown s hx (by unfold maxLen; omega) hlen hB ?_
  intro v' w' h1 h2 _
  exact h v' w' (own_of h1 (by rw [List.length_append, byt_length]) (by simp [Lib.strCells, byt, B8])) (hown.grown hB (Fr.refl B w) h2)
end Go.Proofs.YtfkepclgadeeeaaGreatDoor

/-
  The contract of Unescape.
-/
namespace Go.Proofs.YtfkepclgadeeeaaGreatDoor
open Go.RowKit

theorem unesc_bs (f : Nat) (a : UInt8) (t : List UInt8) (h : a.toNat = 92) : unescGo (f + 1) (a :: t) = if escdB t then (unescGo f (t.drop 2)).map (escdV t :: ·) else .error 11 := by
  cases t with
  | nil => conv => lhs; unfold unescGo
           rw [if_pos h]; rfl
  | cons x t => cases t with
    | nil => conv => lhs; unfold unescGo
             rw [if_pos h]; rfl
    | cons y r => conv => lhs; unfold unescGo
                  rw [if_pos h]; rfl
theorem unesc_utf (f : Nat) (a : UInt8) (t : List UInt8) (h : ¬ a.toNat = 92) (hw : wid (a :: t) = 0) : unescGo (f + 1) (a :: t) = .error 10 := by
  conv => lhs; unfold unescGo
  rw [if_neg h, if_pos hw]
theorem unesc_resv (f : Nat) (a : UInt8) (t : List UInt8) (h : ¬ a.toNat = 92) (hw : ¬ wid (a :: t) = 0) (hr : resv a.toNat = true) : unescGo (f + 1) (a :: t) = .error 12 := by
  conv => lhs; unfold unescGo
  rw [if_neg h, if_neg hw, if_pos hr]
theorem unesc_plain (f : Nat) (a : UInt8) (t : List UInt8) (h : ¬ a.toNat = 92) (hw : ¬ wid (a :: t) = 0) (hr : resv a.toNat = false) : unescGo (f + 1) (a :: t) = (unescGo f ((a :: t).drop (wid (a :: t)))).map ((a :: t).take (wid (a :: t)) ++ ·) := by
  conv => lhs; unfold unescGo
  rw [if_neg h, if_neg hw, if_neg (by rw [hr]; simp)]
theorem map_map_app (x : Except Nat (List UInt8)) (p q : List UInt8) : (x.map (q ++ ·)).map (p ++ ·) = x.map ((p ++ q) ++ ·) := by cases x <;> simp [Except.map]
theorem map_map_cons (x : Except Nat (List UInt8)) (p : List UInt8) (b : UInt8) : (x.map (b :: ·)).map (p ++ ·) = x.map ((p ++ [b]) ++ ·) := by cases x <;> simp [Except.map]
theorem wid_ascii (a : UInt8) (t : List UInt8) (h : a.toNat < 128) : wid (a :: t) = 1 := by
  rw [wid_row a t 0 (by omega) (Nat.zero_le _) (by show a.toNat ≤ 127; omega)]
  exact widAt_good _ _ (by show 1 ≤ _; simp) (fun j h1 h2 => by have : rowW 0 = 1 := rfl; omega)
theorem adigB_ascii (c : Nat) (h : adigB c = true) : c < 128 := by
  unfold adigB adig sdig at h
  split at h
  · omega
  · split at h
    · omega
    · split at h
      · omega
      · cases h
theorem escdB_two (s : ByteArray) (k : Nat) (h : escdB ((byt s).drop k) = true) : ∃ h1 : k + 1 < s.size, (s[k]'(by omega)).toNat < 128 ∧ s[k + 1].toNat < 128 := by
  have hl : ((byt s).drop k).length = s.size - k := by rw [List.length_drop, byt_length]
  by_cases h1 : k + 1 < s.size
  · refine ⟨h1, ?_⟩
    rw [drop_two s k h1] at h
    simp only [escdB, Bool.and_eq_true] at h
    exact ⟨adigB_ascii _ h.1, adigB_ascii _ h.2⟩
  · exfalso
    cases hb : (byt s).drop k with
    | nil => rw [hb] at h; cases h
    | cons a t => cases t with
      | nil => rw [hb] at h; cases h
      | cons b r => rw [hb] at hl; simp at hl; omega
theorem unescGo_nil (f : Nat) : unescGo f [] = .ok [] := by cases f <;> rfl

set_option maxRecDepth 100000 in
set_option maxHeartbeats 2000000 in
theorem Unescape_any (w : World) (g off cap : Nat) (ht : Tab w g off cap) (s : ByteArray) (hs2 : s.size ≤ 140737488355328) :
    Calls Tryz.prog 102 #[.string s] w fun e w' => e = .returned (.tuple #[.string (str (exV (unescL (byt s)))), .int .i64 (exE (unescL (byt s)))]) ∧ Fr w.heap.size w w' := by
  go_enter Tryz.func102, Tryz.ntmps102
  go_wp2
  go_step3
  go_wp2_with (first
    | (at_make; refine wpList_make8 rfl _ _ rfl _ s.size rfl rfl ?c1 ?c2 ?_))
  case c1 => rfl
  case c2 => omega
  intro v1 w1 hown1 hfr1
  go_wp2
  go_step3
  go_wp2
  have hIT : w.heap.size ≤ w1.heap.size := hfr1.size
  go_loopg [4, 5, 6] s.size (fun n v fl bh wr => ∃ (pos f b : Nat) (p : List UInt8), pos ≤ s.size ∧ s.size - pos ≤ n ∧ s.size - max pos b ≤ f ∧ p.length ≤ max pos b ∧ b ≤ s.size ∧ fl = .int .i64 0 ∧ bh = .int .i64 b ∧ (∀ (i : Nat) (hi : i < s.size), pos ≤ i → i < b → s[i].toNat < 128) ∧
    Own wr w.heap.size v p ∧ wr.heap[w1.heap.size]? = some (.stringIter s pos) ∧ unescL (byt s) = (unescGo f ((byt s).drop (max pos b))).map (p ++ ·) ∧ Fr w.heap.size w wr)
  case atStart => exact ⟨0, s.size, 0, [], Nat.zero_le _, by omega, by omega, by simp, by omega, rfl, rfl, fun i _ _ h => by omega, hown1.alloc _, World.iter_heap w1 s 0, by
      rw [unescL, byt_length]; simp only [Nat.max_self, List.drop_zero, List.nil_append]; cases unescGo s.size (byt s) <;> rfl, hfr1.alloc hIT _⟩
  case round =>
    obtain ⟨pos, f, b, p, hp, hn, hf, hpl, hb, rfl, rfl, hasc, hown, hit, hsp, hfr⟩ := hrel
    have HS : Hid _ := hsp
    have HA : Hid _ := hasc
    clear hsp hown1 hfr1 hasc
    by_cases hlt : pos < s.size
    · obtain ⟨m, rfl⟩ : ∃ m, gk = m + 1 := ⟨gk - 1, by omega⟩
      have hnx := fun ty => Lib.run_next_any_at (P := Tryz.prog) wr w1.heap.size s pos ty hit hlt
      have HD : Hid _ := decode_wid s pos hlt
      have HI : Hid _ := hit
      have HE : Hid _ := drop_one s pos hlt
      by_cases hpb : pos < b
      · have hpb' : (pos : Int) < (b : Int) := by omega
        clear hit
        go_wp2
        go_roundg m
        case measure => omega
        case rel =>
          have hd : (Utf8.decode s pos).2 = 1 := by
            rw [HD.out, HE.out, wid_ascii _ _ (HA.out pos hlt (Nat.le_refl _) hpb)]; rfl
          rw [hd]
          exact ⟨pos + 1, f, b, p, by omega, by omega, by omega, by omega, hb, rfl, rfl, fun i hi h1 h2 => HA.out i hi (by omega) h2, hown.iterAt HI.out _, Lib.iterAt_heap _ _ _ _ _ HI.out, by rw [show max (pos + 1) b = max pos b by omega]; exact HS.out, hfr.iterAt hIT hIT _ _⟩
      · have hpb' : decide ((pos : Int) < (b : Int)) = false := by simp; omega
        rw [show max pos b = pos by omega] at hf hpl
        have HS2 : Hid (unescL (byt s) = (unescGo f (s[pos] :: (byt s).drop (pos + 1))).map (p ++ ·)) := by
          show unescL (byt s) = _
          rw [← HE.out, HS.out, show max pos b = pos by omega]
        obtain ⟨f, rfl⟩ : ∃ f', f = f' + 1 := ⟨f - 1, by omega⟩
        have htW := ht.below (hfr.iterAt hIT hIT s (pos + (Utf8.decode s pos).2)).1 (Nat.le_refl _)
        have hsz : 0 < (s.extract pos s.size).size := by rw [size_from]; omega
        have hsz2 : (s.extract pos s.size).size ≤ 140737488355328 := by rw [size_from]; omega
        have HW : Hid (wid (byt (s.extract pos s.size)) = wid (s[pos] :: (byt s).drop (pos + 1))) := by rw [byt_from, drop_one s pos hlt]; rfl
        have HL : Hid (wid (s[pos] :: (byt s).drop (pos + 1)) ≤ s.size - pos) := by
          have := wid_le ((byt s).drop pos)
          rw [List.length_drop, byt_length, drop_one s pos hlt] at this
          exact this
        have hw1 : (wid (byt (s.extract pos s.size)) : Int) ≤ s.size - pos := by
          rw [HW.out]; have := HL.out; omega
        clear hit
        have own2 := fun (w2 : World) (hf : Fr (wr.iterAt w1.heap.size s (pos + (Utf8.decode s pos).2)).heap.size (wr.iterAt w1.heap.size s (pos + (Utf8.decode s pos).2)) w2) => own_kept hown HI.out hf
        have fr2 := fun (w2 : World) (hf : Fr (wr.iterAt w1.heap.size s (pos + (Utf8.decode s pos).2)).heap.size (wr.iterAt w1.heap.size s (pos + (Utf8.decode s pos).2)) w2) => fr_iter_call hfr hIT hIT (Nat.le_refl _) hf
        by_cases h92 : s[pos].toNat = 92
        · have g92 : ((s[pos].toNat : Int) == 92) = true := by rw [h92]; rfl
          have HB : Hid _ := unesc_bs f s[pos] ((byt s).drop (pos + 1)) h92
          have HY : Hid (byt (s.extract (pos + 1) s.size) = (byt s).drop (pos + 1)) := byt_from s (pos + 1)
          have ha : s[pos].toNat < 128 := by omega
          clear h92
          cases hok : escdB (byt (s.extract (pos + 1) s.size)) with
          | false =>
            rw [HY.out] at hok
            have HV : Hid (unescL (byt s) = .error 11) := by
              show unescL (byt s) = _
              rw [HS2.out, HB.out, hok]; rfl
            rw [← HY.out] at hok
            go_wp2_with (first
              | (go_at_call 98; refine (width_any _ g off cap htW _ hsz hsz2).mono ?_; rintro e w2 ⟨rfl, hf2⟩; have ho2 := own2 w2 hf2; have hr2 := fr2 w2 hf2)
              | (go_at_call 110; refine (escaped_any _ _).mono ?_; rintro e w9 ⟨rfl, rfl⟩))
            try rw [Exit.noGoto_ret]
            go_ret2
            exact ⟨ret_se (by rw [HV.out]; rfl) (by rw [HV.out]; rfl), hr2⟩
          | true =>
            rw [HY.out] at hok
            have HV : Hid (unescL (byt s) = (unescGo f ((byt s).drop (pos + 3))).map ((p ++ [escdV (byt (s.extract (pos + 1) s.size))]) ++ ·)) := by
              show unescL (byt s) = _
              rw [HS2.out, HB.out, hok, HY.out, if_pos rfl, map_map_cons, List.drop_drop]
            obtain ⟨hk2, d1, d2⟩ := escdB_two s (pos + 1) hok
            rw [← HY.out] at hok
            have hl1 : p.length + [escdV (byt (s.extract (pos + 1) s.size))].length ≤ 140737488355328 := by simp; omega
            have H1 : Hid _ := d1
            have H2 : Hid _ := d2
            clear d1 d2
            go_wp2_with (first
              | (go_at_call 98; refine (width_any _ g off cap htW _ hsz hsz2).mono ?_; rintro e w2 ⟨rfl, hf2⟩; have ho2 := own2 w2 hf2; have hr2 := fr2 w2 hf2)
              | (go_at_call 110; refine (escaped_any _ _).mono ?_; rintro e w9 ⟨rfl, rfl⟩)
              | (at_builtin; refine wpList_push rfl _ _ rfl _ w.heap.size _ p [escdV (byt (s.extract (pos + 1) s.size))] _ ho2 hr2.size rfl 1 1 rfl rfl rfl hl1 ?_; intro v3 w3 ho3 hr3))
            go_roundg m
            case measure => omega
            case rel =>
              have hd : (Utf8.decode s pos).2 = 1 := by
                rw [HD.out, HE.out, wid_ascii _ _ ha]; rfl
              refine ⟨pos + 1, f, pos + 3, _, by omega, by omega, by omega, ?_, by omega, rfl, by go_num, ?_, ho3, ?_, ?_, hr2.trans hr3⟩
              · simp; omega
              · intro i hi h1 h2
                rcases (show i = pos + 1 ∨ i = pos + 1 + 1 by omega) with e | e
                · subst e; exact H1.out
                · subst e; exact H2.out
              · have := hr3.iter (iter_kept HI.out hf2)
                rw [hd] at this
                exact this
              · rw [show max (pos + 1) (pos + 3) = pos + 3 by omega]; exact HV.out
        · have g92 : ((s[pos].toNat : Int) == 92) = false := by simp; omega
          by_cases hw : wid (byt (s.extract pos s.size)) = 0
          · have hw' : ((wid (byt (s.extract pos s.size)) : Int) == 0) = true := by rw [hw]; rfl
            have HV : Hid (unescL (byt s) = .error 10) := by
              show unescL (byt s) = _
              rw [HW.out] at hw
              rw [HS2.out, unesc_utf f _ _ h92 hw]; rfl
            clear hw hw1
            go_wp2_with (first
              | (go_at_call 98; refine (width_any _ g off cap htW _ hsz hsz2).mono ?_; rintro e w2 ⟨rfl, hf2⟩; have ho2 := own2 w2 hf2; have hr2 := fr2 w2 hf2))
            try rw [Exit.noGoto_ret]
            go_ret2
            exact ⟨ret_se (by rw [HV.out]; rfl) (by rw [HV.out]; rfl), hr2⟩
          · have hw' : ((wid (byt (s.extract pos s.size)) : Int) == 0) = false := by simp; omega
            by_cases hr : resv s[pos].toNat = true
            · have HV : Hid (unescL (byt s) = .error 12) := by
                show unescL (byt s) = _
                rw [HW.out] at hw
                rw [HS2.out, unesc_resv f _ _ h92 hw hr]; rfl
              clear hw1
              go_wp2_with (first
                | (go_at_call 98; refine (width_any _ g off cap htW _ hsz hsz2).mono ?_; rintro e w2 ⟨rfl, hf2⟩; have ho2 := own2 w2 hf2; have hr2 := fr2 w2 hf2)
                | (go_at_call 99; refine (reserved_any _ (UInt8.toNat_lt _) _).mono ?_; rintro e w9 ⟨rfl, rfl⟩))
              try rw [Exit.noGoto_ret]
              go_ret2
              exact ⟨ret_se (by rw [HV.out]; rfl) (by rw [HV.out]; rfl), hr2⟩
            · have hr' : resv s[pos].toNat = false := by simpa using hr
              have HC : Hid (byt (s.extract pos (pos + wid (byt (s.extract pos s.size)))) = (s[pos] :: (byt s).drop (pos + 1)).take (wid (s[pos] :: (byt s).drop (pos + 1)))) := by
                show byt _ = _
                rw [byt_extract, Nat.add_sub_cancel_left, HW.out, HE.out]
              have HV : Hid (unescL (byt s) = (unescGo f ((byt s).drop (pos + wid (s[pos] :: (byt s).drop (pos + 1))))).map ((p ++ byt (s.extract pos (pos + wid (byt (s.extract pos s.size))))) ++ ·)) := by
                show unescL (byt s) = _
                rw [HW.out] at hw
                rw [HS2.out, unesc_plain f _ _ h92 hw hr', map_map_app, HC.out, ← HE.out, List.drop_drop]
              have hl3 : p.length + (s.extract pos (pos + wid (byt (s.extract pos s.size)))).size ≤ 140737488355328 := by
                rw [← byt_length, byt_extract, List.length_take]; omega
              have HP : Hid ((p ++ byt (s.extract pos (pos + wid (byt (s.extract pos s.size))))).length ≤ pos + wid (s[pos] :: (byt s).drop (pos + 1))) := by
                show List.length _ ≤ _
                rw [List.length_append, byt_extract, List.length_take, Nat.add_sub_cancel_left, HW.out]; omega
              go_wp2_with (first
                | (go_at_call 98; refine (width_any _ g off cap htW _ hsz hsz2).mono ?_; rintro e w2 ⟨rfl, hf2⟩; have ho2 := own2 w2 hf2; have hr2 := fr2 w2 hf2)
                | (go_at_call 99; refine (reserved_any _ (UInt8.toNat_lt _) _).mono ?_; rintro e w9 ⟨rfl, rfl⟩)
                | (at_builtin; refine wpList_pushS rfl _ _ rfl w.heap.size _ p ho2 hr2.size rfl _ rfl hl3 ?_; intro v3 w3 ho3 hr3))
              go_roundg m
              case measure => omega
              case rel =>
                rw [HW.out] at hw
                have hd : (Utf8.decode s pos).2 = wid (s[pos] :: (byt s).drop (pos + 1)) := by
                  rw [HD.out, HE.out]; omega
                have h1 := HL.out
                have h2 := HP.out
                refine ⟨pos + (Utf8.decode s pos).2, f, b, _, by omega, by omega, by omega, ?_, hb, rfl, rfl, fun i hi h1 h2 => by omega, ho3, hr3.iter (iter_kept HI.out hf2), ?_, hr2.trans hr3⟩
                · rw [hd]; omega
                · rw [show max (pos + (Utf8.decode s pos).2) b = pos + wid (s[pos] :: (byt s).drop (pos + 1)) by omega]; exact HV.out
    · have hnx := fun ty => Lib.run_next_end_at (P := Tryz.prog) wr w1.heap.size s pos ty hit hlt
      have hcv := hown.conv
      have HV : Hid (unescL (byt s) = .ok p) := by
        show unescL (byt s) = _
        rw [HS.out, drop_end s _ (by omega), unescGo_nil]; simp [Except.map]
      clear hit
      go_wp2
      try rw [Exit.noGoto_ret]
      go_ret2
      exact ⟨ret_se (by rw [HV.out]; rfl) (by rw [HV.out]; rfl), hfr⟩
end Go.Proofs.YtfkepclgadeeeaaGreatDoor
