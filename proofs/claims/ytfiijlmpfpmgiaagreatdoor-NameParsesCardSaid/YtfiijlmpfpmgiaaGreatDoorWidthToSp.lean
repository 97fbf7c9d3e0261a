/-
  The contract of width: how many bytes the character at a text's beginning has.
-/
import Derived.Test.YtfiijlmpfpmgiaaGreatDoorMathToRules
import Derived.Deep.LoopGhost
import Derived.Deep.QuietTactic
import Derived.BigQuiet
import Derived.Lib.AppendStr
import Derived.Test.YtfiijlmpfpmgiaaGreatDoorShelfToStrs
namespace Go.Proofs.YtfiijlmpfpmgiaaGreatDoor
open Go.RowKit

theorem Fr.drewN {B : Nat} {a w : World} (h : Fr B a w) (n : Nat) : Fr B a (w.drewN n) := ⟨below_drewN h.1 n, fun k o h1 h2 h3 => h.2 k o h1 h2 h3⟩

/-- the table's cells -/
structure Tab (w : World) (g off cap : Nat) : Prop where
  var : w.cell? ⟨3, 0, none⟩ = some (.slice (some ⟨g, off, none⟩) 9 cap)
  c0 : ∀ k : Nat, k < 9 → w.cell? ⟨g, off + k * 5, none⟩ = some (.int .u8 (rowF k))
  c1 : ∀ k : Nat, k < 9 → w.cell? ⟨g, off + k * 5 + 1, none⟩ = some (.int .u8 (rowL k))
  c2 : ∀ k : Nat, k < 9 → w.cell? ⟨g, off + k * 5 + 2, none⟩ = some (.int .u8 (rowA k))
  c3 : ∀ k : Nat, k < 9 → w.cell? ⟨g, off + k * 5 + 3, none⟩ = some (.int .u8 (rowZ k))
  c4 : ∀ k : Nat, k < 9 → w.cell? ⟨g, off + k * 5 + 4, none⟩ = some (.int .i64 (rowW k))

set_option maxRecDepth 100000 in
set_option maxHeartbeats 1000000 in
theorem width_any (w : World) (g off cap : Nat) (ht : Tab w g off cap) (s : ByteArray) (hs : 0 < s.size) (hs2 : s.size ≤ 140737488355328) :
    Calls Tryz.prog 77 #[.string s] w fun e w' => e = .returned (.int .i64 (wid (byt s))) ∧ Fr w.heap.size w w' := by
  have hv := ht.var
  have hw0 : Hid _ := wid_byt s hs
  have hg : g < w.heap.size := World.block_lt_of_cell? w _ (ht.c0 0 (by omega))
  go_enter Tryz.func77, Tryz.ntmps77
  go_wp2
  go_step3
  go_wp2
  go_step3
  go_wp2
  clear hv
  go_loopw [10] (fun i wr => ∃ k : Nat, k ≤ 9 ∧ i = .int .i64 k ∧ wid (byt s) = widGo (byt s) s[0].toNat (9 - k) k ∧ Fr w.heap.size w wr) (fun i _ => 9 - (intOf i).toNat)
  case atStart => exact ⟨0, Nat.zero_le _, rfl, hw0.out, Fr.refl _ _⟩
  case round =>
    obtain ⟨k, hk, rfl, hsp, hfr⟩ := hrel
    have HS : Hid _ := hsp
    clear hsp
    by_cases hlt : k < 9
    · have c0 := (hfr.1.cell (p := ⟨g, off + k * 5, none⟩) hg).trans (ht.c0 k hlt)
      have c1 := (hfr.1.cell (p := ⟨g, off + k * 5 + 1, none⟩) hg).trans (ht.c1 k hlt)
      have c2 := (hfr.1.cell (p := ⟨g, off + k * 5 + 2, none⟩) hg).trans (ht.c2 k hlt)
      have c3 := (hfr.1.cell (p := ⟨g, off + k * 5 + 3, none⟩) hg).trans (ht.c3 k hlt)
      have c4 := (hfr.1.cell (p := ⟨g, off + k * 5 + 4, none⟩) hg).trans (ht.c4 k hlt)
      have hbd := row_bd k
      by_cases ha : s[0].toNat < rowF k
      · have hi : (s[0].toNat : Int) < (rowF k : Int) := by omega
        go_wp2
        go_quiet (fail)
        go_wp2
        go_roundw
        case rel =>
          refine ⟨k + 1, by omega, by go_num, ?_, ?_⟩
          · rw [HS.out, show 9 - k = (9 - (k + 1)) + 1 by omega, widGo, if_neg (by simp [inRow]; omega)]
          · exact (hfr.alloc hfr.size _).drewN nq
        case measure => simp [intOf]; omega
      · have hi : decide ((s[0].toNat : Int) < (rowF k : Int)) = false := by simp; omega
        by_cases hz : rowL k < s[0].toNat
        · have hj : (rowL k : Int) < (s[0].toNat : Int) := by omega
          go_wp2
          go_quiet (fail)
          go_wp2
          go_roundw
          case rel =>
            refine ⟨k + 1, by omega, by go_num, ?_, ?_⟩
            · rw [HS.out, show 9 - k = (9 - (k + 1)) + 1 by omega, widGo, if_neg (by simp [inRow]; omega)]
            · exact (hfr.alloc hfr.size _).drewN nq
          case measure => simp [intOf]; omega
        · have hj : decide ((rowL k : Int) < (s[0].toNat : Int)) = false := by simp; omega
          have HT : Hid (wid (byt s) = widAt (byt s) k) := by
            show wid (byt s) = widAt (byt s) k
            rw [HS.out, show 9 - k = (9 - (k + 1)) + 1 by omega, widGo, if_pos (by simp [inRow]; omega)]
          by_cases hn : s.size < rowW k
          · have hn' : (s.size : Int) < (rowW k : Int) := by omega
            go_wp2
            go_quiet (fail)
            go_wp2
            try rw [Exit.noGoto_ret]
            go_ret
            exact ⟨ret_i (by rw [HT.out, widAt_short _ _ (by rw [byt_length]; exact hn)]; rfl), (hfr.alloc hfr.size _).drewN nq⟩
          · have hn' : (rowW k : Int) ≤ (s.size : Int) := by omega
            go_wp2
            go_quiet (fail)
            go_wp2
            go_quiet (fail)
            go_wp2
            go_loop [5, 6, 7] (fun a z i => ∃ j : Nat, 1 ≤ j ∧ j ≤ rowW k ∧ a = .int .u8 (lowOf k j) ∧ z = .int .u8 (highOf k j) ∧ i = .int .i64 j ∧ ∀ m, 1 ≤ m → m < j → tl (byt s) k m = true) (fun _ _ i => rowW k - (intOf i).toNat)
            case atStart => exact ⟨1, by omega, rowW_pos k hlt, rfl, rfl, rfl, fun m h1 h2 => by omega⟩
            case round =>
              obtain ⟨j, hj1, hj2, rfl, rfl, rfl, hall⟩ := hrel
              have HA : Hid _ := hall
              clear hall
              by_cases hjw : j < rowW k
              · have hjs : j < s.size := by omega
                have hjw' : (j : Int) < (rowW k : Int) := by omega
                have HB : Hid _ := tl_byt s k j hjs
                by_cases hl : s[j].toNat < lowOf k j
                · have hl' : (s[j].toNat : Int) < (lowOf k j : Int) := by omega
                  go_wp2
                  try rw [Exit.noGoto_ret]
                  go_ret
                  exact ⟨ret_i (by rw [HT.out, widAt_bad _ _ j hj1 hjw (by rw [HB.out]; simp; omega)]; rfl), (hfr.alloc hfr.size _).drewN _⟩
                · have hl' : decide ((s[j].toNat : Int) < (lowOf k j : Int)) = false := by simp; omega
                  by_cases hh : highOf k j < s[j].toNat
                  · have hh' : (highOf k j : Int) < (s[j].toNat : Int) := by omega
                    go_wp2
                    try rw [Exit.noGoto_ret]
                    go_ret
                    exact ⟨ret_i (by rw [HT.out, widAt_bad _ _ j hj1 hjw (by rw [HB.out]; simp; omega)]; rfl), (hfr.alloc hfr.size _).drewN _⟩
                  · have hh' : decide ((highOf k j : Int) < (s[j].toNat : Int)) = false := by simp; omega
                    go_wp2
                    go_round
                    case rel =>
                      refine ⟨_, _, _, ⟨j + 1, by omega, by omega, rfl, rfl, rfl, ?_⟩, by rw [lowOf, if_neg (by omega)]; rfl, by rw [highOf, if_neg (by omega)]; rfl, by go_num⟩
                      · intro m h1 h2
                        by_cases hm : m < j
                        · exact HA.out m h1 hm
                        · obtain rfl : m = j := by omega
                          rw [HB.out]; simp; omega
                    case measure => simp [intOf]; omega
              · obtain rfl : j = rowW k := by omega
                go_wp2
                try rw [Exit.noGoto_ret]
                go_ret
                exact ⟨ret_i (by rw [HT.out, widAt_good _ _ (by rw [byt_length]; omega) HA.out]), (hfr.alloc hfr.size _).drewN _⟩
    · have hk9 : k = 9 := by omega
      subst hk9
      go_wp2
      try rw [Exit.noGoto_ret]
      go_ret
      exact ⟨ret_i (by rw [HS.out]; rfl), hfr⟩
end Go.Proofs.YtfiijlmpfpmgiaaGreatDoor

/-
  The contract of Valid: whether no byte of a text stands alone.
-/
namespace Go.Proofs.YtfiijlmpfpmgiaaGreatDoor
open Go.RowKit

theorem Tab.below {w w' : World} {g off cap B : Nat} (h : Tab w g off cap) (hb : Below B w w') (hB : w.heap.size ≤ B) : Tab w' g off cap := by
  have hg : g < B := Nat.lt_of_lt_of_le (World.block_lt_of_cell? w _ (h.c0 0 (by omega))) hB
  have h0 : 3 < B := Nat.lt_of_lt_of_le (World.block_lt_of_cell? w _ h.var) hB
  exact ⟨(hb.cell (p := ⟨3, 0, none⟩) h0).trans h.var, fun k hk => (hb.cell (p := ⟨g, _, none⟩) hg).trans (h.c0 k hk), fun k hk => (hb.cell (p := ⟨g, _, none⟩) hg).trans (h.c1 k hk),
    fun k hk => (hb.cell (p := ⟨g, _, none⟩) hg).trans (h.c2 k hk), fun k hk => (hb.cell (p := ⟨g, _, none⟩) hg).trans (h.c3 k hk), fun k hk => (hb.cell (p := ⟨g, _, none⟩) hg).trans (h.c4 k hk)⟩
theorem Fr.iterAt {a w : World} {B : Nat} (h : Fr B a w) {k : Nat} (hB : B ≤ k) (hk : a.heap.size ≤ k) (s : ByteArray) (pos : Nat) : Fr B a (w.iterAt k s pos) := by
  refine ⟨Lib.below_iterAt h.1 hB s pos, fun i o h1 h2 h3 => ?_⟩
  have hi : i < a.heap.size := (Array.getElem?_eq_some_iff.1 h1).1
  rw [Lib.iterAt_other w k i s pos (by omega)]
  exact h.2 i o h1 h2 h3

/-- an iterator behind a call that was made in the world with the iterator moved on -/
theorem iter_kept {wr w2 : World} {IT : Nat} {s : ByteArray} {pos p2 : Nat} (hit : wr.heap[IT]? = some (.stringIter s pos)) (hf : Fr (wr.iterAt IT s p2).heap.size (wr.iterAt IT s p2) w2) : w2.heap[IT]? = some (.stringIter s p2) := by
  have hlt : IT < wr.heap.size := (Array.getElem?_eq_some_iff.1 hit).1
  rw [hf.1.block IT (by rw [Lib.iterAt_size]; exact hlt)]
  exact Lib.iterAt_heap wr IT s pos p2 hit
theorem fr_iter_call {w wr w2 : World} {IT B : Nat} {s : ByteArray} {p2 : Nat} (hfr : Fr B w wr) (hB : B ≤ IT) (hI : w.heap.size ≤ IT) (hBw : B ≤ w.heap.size) (hf : Fr (wr.iterAt IT s p2).heap.size (wr.iterAt IT s p2) w2) : Fr B w w2 :=
  (hfr.iterAt hB hI s p2).trans (hf.mono (by rw [Lib.iterAt_size]; exact Nat.le_trans hBw hfr.size))

set_option maxRecDepth 100000 in
set_option maxHeartbeats 1000000 in
theorem Valid_any (w : World) (g off cap : Nat) (ht : Tab w g off cap) (s : ByteArray) (hs2 : s.size ≤ 140737488355328) :
    Calls Tryz.prog 57 #[.string s] w fun e w' => e = .returned (.bool (validL (byt s))) ∧ Fr w.heap.size w w' := by
  go_enter Tryz.func57, Tryz.ntmps57
  go_wp2
  go_loopg [] s.size (fun n wr => ∃ pos : Nat, pos ≤ s.size ∧ s.size - pos ≤ n ∧ wr.heap[w.heap.size]? = some (.stringIter s pos) ∧ validL (byt s) = validGo n ((byt s).drop pos) ∧ Fr w.heap.size w wr)
  case atStart => exact ⟨0, Nat.zero_le _, by omega, World.iter_heap w s 0, by rw [← byt_length]; rfl, (Fr.refl _ _).alloc (Nat.le_refl _) _⟩
  case round =>
    obtain ⟨pos, hp, hn, hit, hsp, hfr⟩ := hrel
    have HS : Hid _ := hsp
    clear hsp
    by_cases hlt : pos < s.size
    · obtain ⟨m, rfl⟩ : ∃ m, gk = m + 1 := ⟨gk - 1, by omega⟩
      have hnx := fun ty => Lib.run_next_any_at (P := Tryz.prog) wr w.heap.size s pos ty hit hlt
      have HD : Hid _ := decode_wid s pos hlt
      have HI : Hid _ := hit
      have HE : Hid _ := drop_one s pos hlt
      have htW := ht.below (hfr.iterAt (Nat.le_refl _) (Nat.le_refl _) s (pos + (Utf8.decode s pos).2)).1 (Nat.le_refl _)
      have hsz : 0 < (s.extract pos s.size).size := by rw [size_from]; omega
      have hsz2 : (s.extract pos s.size).size ≤ 140737488355328 := by rw [size_from]; omega
      have HW : Hid (wid (byt (s.extract pos s.size)) = wid ((byt s).drop pos)) := by rw [byt_from]; rfl
      clear hit
      by_cases hw : wid (byt (s.extract pos s.size)) = 0
      · have hw' : ((wid (byt (s.extract pos s.size)) : Int) == 0) = true := by rw [hw]; rfl
        have HV : Hid (validL (byt s) = false) := by
          show validL (byt s) = false
          rw [HS.out, validGo, HE.out, ← HE.out]
          rw [HW.out] at hw
          rw [if_neg (by rw [HE.out]; simp), if_pos hw]
        clear hw
        go_wp2_with (go_at_call 77; refine (width_any _ g off cap htW _ hsz hsz2).mono ?_; rintro e w2 ⟨rfl, hf2⟩)
        go_ret
        exact ⟨ret_b HV.out.symm, fr_iter_call hfr (Nat.le_refl _) (Nat.le_refl _) (Nat.le_refl _) (by assumption)⟩
      · have hw' : ((wid (byt (s.extract pos s.size)) : Int) == 0) = false := by simp; omega
        go_wp2_with (go_at_call 77; refine (width_any _ g off cap htW _ hsz hsz2).mono ?_; rintro e w2 ⟨rfl, hf2⟩)
        go_roundg m
        case measure => omega
        case rel =>
          have h1 := stp_drop s pos hlt
          have h2 := one_stp ((byt s).drop pos)
          have hd : (Utf8.decode s pos).2 = stp ((byt s).drop pos) := HD.out
          refine ⟨pos + (Utf8.decode s pos).2, by omega, by omega, iter_kept HI.out hf2, ?_, fr_iter_call hfr (Nat.le_refl _) (Nat.le_refl _) (Nat.le_refl _) hf2⟩
          rw [HW.out] at hw
          rw [HS.out, validGo, if_neg (by rw [HE.out]; simp), if_neg hw, List.drop_drop, hd]
    · have hnx := fun ty => Lib.run_next_end_at (P := Tryz.prog) wr w.heap.size s pos ty hit hlt
      clear hit
      go_wp2
      go_ret
      refine ⟨ret_b ?_, hfr⟩
      rw [HS.out, drop_end s pos hlt]
      cases gk <;> rfl
end Go.Proofs.YtfiijlmpfpmgiaaGreatDoor

/-
  An owned slice of bytes beside a string's iterator; a string's bytes appended.
-/
namespace Go.Proofs.YtfiijlmpfpmgiaaGreatDoor
open Go.RowKit

theorem Own.below {w w' : World} {B : Nat} {v : Value} {l : List UInt8} (h : Own w B v l) (hb : Below w.heap.size w w') : Own w' B v l := by
  refine ⟨h.1, ?_⟩
  rcases h.2 with h2 | ⟨g, cap, cur, hv, hg, hh, r⟩
  · exact .inl h2
  · exact .inr ⟨g, cap, cur, hv, hg, by rw [hb.block g (Array.getElem?_eq_some_iff.1 hh).1]; exact hh, r⟩
theorem Own.iterAt {w : World} {B : Nat} {v : Value} {l : List UInt8} (h : Own w B v l) {k : Nat} {s : ByteArray} {pos : Nat} (hk : w.heap[k]? = some (.stringIter s pos)) (p2 : Nat) : Own (w.iterAt k s p2) B v l := by
  refine ⟨h.1, ?_⟩
  rcases h.2 with h2 | ⟨g, cap, cur, hv, hg, hh, r⟩
  · exact .inl h2
  · have hne : g ≠ k := by intro e; rw [e, hk] at hh; cases hh
    exact .inr ⟨g, cap, cur, hv, hg, by rw [Lib.iterAt_other w k g s p2 hne]; exact hh, r⟩
theorem Fr.iter {B : Nat} {w w' : World} (h : Fr B w w') {k : Nat} {s : ByteArray} {pos : Nat} (hk : w.heap[k]? = some (.stringIter s pos)) : w'.heap[k]? = some (.stringIter s pos) :=
  h.2 k _ hk (fun e => by cases e) (fun _ _ e => by cases e)
/-- an owned slice behind a call that was made in the world with the iterator moved on -/
theorem own_kept {wr w2 : World} {IT B : Nat} {v : Value} {l : List UInt8} {s : ByteArray} {pos p2 : Nat} (h : Own wr B v l) (hit : wr.heap[IT]? = some (.stringIter s pos)) (hf : Fr (wr.iterAt IT s p2).heap.size (wr.iterAt IT s p2) w2) : Own w2 B v l :=
  (h.iterAt hit p2).below hf.1

/-- 'append(v, s...)', s a string -/
theorem wpList_pushS {w : World} {ops : Array Oper} {rest : List Oper} {o : Oper} {a : Act} {Q : Exit → Act → World → Prop} (hgd : o.guard = none) (sl x : Operand)
    (ho : o.op = .call { callee := .builtin .append, args := #[sl, x], argTypes := #[67, 9] })
    (B : Nat) (v : Value) (l : List UInt8) (hown : Own w B v l) (hB : B ≤ w.heap.size) (hs : a.eval sl = v) (s : ByteArray) (hx : a.eval x = .string s) (hlen : l.length + s.size ≤ 140737488355328)
    (h : ∀ v' w', Own w' B v' (l ++ byt s) → Fr B w w' → wpList Tryz.prog ops Q rest (a.put o.dst v') w') : wpList Tryz.prog ops Q (o :: rest) a w := by
  obtain ⟨i0, hi0, hz0, hz1, hz2⟩ := info_parts info8
  refine Lib.wpList_append_own_string _ hgd sl x 67 9 ho B 5 i0 Tryz.underlying67 Tryz.underlying9 hi0 hz0 hz1 hz2 v l.length (l.map B8) hs hown s hx (by unfold maxLen; omega) hlen hB ?_
  intro v' w' h1 h2 _
  exact h v' w' (own_of h1 (by rw [List.length_append, byt_length]) (by simp [Lib.strCells, byt, B8])) (hown.grown hB (Fr.refl B w) h2)
end Go.Proofs.YtfiijlmpfpmgiaaGreatDoor

/-
  Well-formed texts: put together, cut, their letters small.
-/
namespace Go.Proofs.YtfiijlmpfpmgiaaGreatDoor

theorem validGo_fuel : ∀ n m (l : List UInt8), l.length ≤ n → l.length ≤ m → validGo n l = validGo m l := by
  intro n
  induction n with
  | zero =>
    intro m l h _
    have : l = [] := List.eq_nil_of_length_eq_zero (by omega)
    subst this; rw [validGo_nil, validGo_nil]
  | succ n ih =>
    intro m l h1 h2
    cases l with
    | nil => rw [validGo_nil, validGo_nil]
    | cons a t =>
      cases m with
      | zero => simp at h2
      | succ m =>
        rw [validGo, validGo]
        have hs := one_stp (a :: t)
        rw [ih m _ (by rw [List.length_drop]; omega) (by rw [List.length_drop]; omega)]
theorem validL_nil : validL [] = true := rfl
theorem validL_cons (a : UInt8) (t : List UInt8) : validL (a :: t) = if wid (a :: t) = 0 then false else validL ((a :: t).drop (wid (a :: t))) := by
  unfold validL
  rw [List.length_cons, validGo, if_neg (by simp)]
  split
  · rfl
  · rename_i h
    have e : stp (a :: t) = wid (a :: t) := by unfold stp; omega
    rw [e]
    exact validGo_fuel _ _ _ (by rw [List.length_drop, List.length_cons]; omega) (Nat.le_refl _)
theorem validL_ascii (a : UInt8) (t : List UInt8) (h : a.toNat < 128) : validL (a :: t) = validL t := by
  rw [validL_cons, wid_ascii a t h, if_neg (by omega)]; rfl
/-- by characters -/
theorem valid_ind {p : List UInt8 → Prop} (h0 : p []) (hs : ∀ a t, wid (a :: t) ≠ 0 → validL ((a :: t).drop (wid (a :: t))) = true → p ((a :: t).drop (wid (a :: t))) → p (a :: t)) : ∀ l, validL l = true → p l := by
  have : ∀ n (l : List UInt8), l.length ≤ n → validL l = true → p l := by
    intro n
    induction n with
    | zero => intro l h _; have : l = [] := List.eq_nil_of_length_eq_zero (by omega); subst this; exact h0
    | succ n ih =>
      intro l h hv
      cases l with
      | nil => exact h0
      | cons a t =>
        rw [validL_cons] at hv
        split at hv
        · cases hv
        · rename_i hw
          exact hs a t hw hv (ih _ (by rw [List.length_drop]; simp at h; simp; omega) hv)
  exact fun l => this l.length l (Nat.le_refl _)
theorem drop_app_le (a b : List UInt8) (k : Nat) (h : k ≤ a.length) : (a ++ b).drop k = a.drop k ++ b := List.drop_append_of_le_length h
theorem valid_app (b : List UInt8) : ∀ a, validL a = true → validL (a ++ b) = validL b := by
  refine valid_ind rfl ?_
  intro a t hw _ ih
  have hle := wid_le (a :: t)
  rw [List.cons_append, validL_cons, ← List.cons_append, wid_app _ _ hw, if_neg hw, drop_app_le _ _ _ hle, ih]
/-- a byte of the first 128 behind -/
theorem wid_snoc (l : List UInt8) (b : UInt8) (hb : b.toNat < 128) (hl : l ≠ []) (h : wid (l ++ [b]) ≠ 0) : wid l ≠ 0 := by
  cases l with
  | nil => exact absurd rfl hl
  | cons a t =>
    rw [List.cons_append] at h
    obtain ⟨k, h1, h2, h3, h4, h5⟩ := wid_row_of a (t ++ [b]) h
    have hlen : rowW k ≤ (a :: t).length := by
      by_cases hc : rowW k ≤ (a :: t).length
      · exact hc
      · exfalso
        simp only [List.length_cons, List.length_append, List.length_nil] at h3 hc
        have hj := h4 (t.length + 1) (by omega) (by omega)
        unfold tl at hj
        have e : (a :: (t ++ [b]))[t.length + 1]? = some b := by simp
        rw [e] at hj
        simp only [Bool.and_eq_true, decide_eq_true_eq] at hj
        have : 128 ≤ lowOf k (t.length + 1) := by
          unfold lowOf; split
          · exact rowA_high k (by omega)
          · omega
        omega
    rw [h5 t, widAt_good _ _ hlen]
    · have := (row_bd k)
      intro e
      rw [h2, e] at h
      exact h rfl
    · intro j hj1 hj2
      have ht := h4 j hj1 hj2
      unfold tl at ht ⊢
      rw [← List.cons_append, List.getElem?_append_left (by omega)] at ht
      exact ht
theorem valid_snoc (b : UInt8) (hb : b.toNat < 128) : ∀ n (l : List UInt8), l.length ≤ n → validL (l ++ [b]) = validL l := by
  intro n
  induction n with
  | zero =>
    intro l h
    have : l = [] := List.eq_nil_of_length_eq_zero (by omega)
    subst this; rw [List.nil_append, validL_ascii b [] hb]
  | succ n ih =>
    intro l h
    cases l with
    | nil => rw [List.nil_append, validL_ascii b [] hb]
    | cons a t =>
      by_cases hw : wid (a :: t) = 0
      · have h2 : wid (a :: t ++ [b]) = 0 := by
          by_cases hc : wid (a :: t ++ [b]) = 0
          · exact hc
          · exact absurd hw (wid_snoc (a :: t) b hb (by simp) hc)
        rw [validL_cons, if_pos hw, List.cons_append, validL_cons, ← List.cons_append, if_pos h2]
      · have hle := wid_le (a :: t)
        rw [validL_cons a t, if_neg hw, List.cons_append, validL_cons, ← List.cons_append, wid_app _ _ hw, if_neg hw, drop_app_le _ _ _ hle]
        refine ih _ ?_
        rw [List.length_drop]; simp at h ⊢; omega
theorem valid_last (l : List UInt8) (b : UInt8) (hb : b.toNat < 128) : validL (l ++ [b]) = validL l := valid_snoc b hb _ l (Nat.le_refl _)

theorem low_ascii (b : UInt8) (h : b.toNat < 128) : (lowB b).toNat < 128 := by
  unfold lowB; split
  · rename_i hc
    simp only [Bool.and_eq_true, decide_eq_true_eq] at hc
    have : b.toNat + 32 < 256 := by omega
    simp [Nat.mod_eq_of_lt this]; omega
  · exact h
theorem sm_ascii (sm : Bool) (b : UInt8) (h : b.toNat < 128) : (smB sm b).toNat < 128 := by
  unfold smB; split
  · exact low_ascii b h
  · exact h
/-- what is joined is well-formed, if it was -/
theorem valid_join (sm : Bool) : ∀ l, validL l = true → ∀ p, validL (joinL sm p l) = true := by
  refine valid_ind (fun _ => rfl) ?_
  intro a t hw hv ih p
  by_cases ha : a.toNat < 128
  · have e : (a :: t).drop (wid (a :: t)) = t := by rw [wid_ascii a t ha]; rfl
    rw [e] at ih
    rw [joinL]
    split
    · exact ih _
    · rw [validL_ascii _ _ (sm_ascii sm a ha)]; exact ih _
  · rw [join_char sm p a t (by omega) hw]
    have hc : validL ((a :: t).take (wid (a :: t))) = true := by
      have h1 := wid_chunk (a :: t) [] hw
      rw [List.append_nil] at h1
      have hl : ((a :: t).take (wid (a :: t))).length = wid (a :: t) := by rw [List.length_take]; have := wid_le (a :: t); omega
      cases hx : (a :: t).take (wid (a :: t)) with
      | nil => rfl
      | cons x y =>
        rw [hx] at h1 hl
        rw [validL_cons, h1, if_neg hw, List.drop_eq_nil_of_le (by omega)]; rfl
    rw [valid_app _ _ hc]
    exact ih _
theorem valid_trimA : ∀ l, validL l = true → validL (trimA l) = true := by
  intro l
  induction l with
  | nil => intro h; exact h
  | cons a t ih =>
    intro h
    unfold trimA
    by_cases ha : a = 32
    · subst ha
      rw [List.dropWhile_cons_of_pos (by rfl)]
      rw [validL_ascii _ _ (by decide)] at h
      exact ih h
    · rw [List.dropWhile_cons_of_neg (by simpa using ha)]; exact h
theorem trimZ_snoc (l : List UInt8) (b : UInt8) : trimZ (l ++ [b]) = if b = 32 then trimZ l else l ++ [b] := by
  unfold trimZ
  rw [List.reverse_append, List.reverse_singleton, List.singleton_append]
  split
  · rename_i h; subst h; rw [List.dropWhile_cons_of_pos (by rfl)]
  · rename_i h; rw [List.dropWhile_cons_of_neg (by simpa using h)]; simp
theorem snoc_ind {p : List UInt8 → Prop} (h0 : p []) (hs : ∀ l b, p l → p (l ++ [b])) : ∀ l, p l := by
  intro l
  rw [← List.reverse_reverse l]
  induction l.reverse with
  | nil => exact h0
  | cons a t ih => rw [List.reverse_cons]; exact hs _ _ ih
theorem valid_trimZ : ∀ l, validL l = true → validL (trimZ l) = true := by
  refine snoc_ind (fun h => h) ?_
  intro l b ih h
  rw [trimZ_snoc]
  split
  · rename_i hb
    subst hb
    rw [valid_last l 32 (by decide)] at h
    exact ih h
  · exact h
end Go.Proofs.YtfiijlmpfpmgiaaGreatDoor

/-
  The form of texts in which runs of blanks don't count.
-/
namespace Go.Proofs.YtfiijlmpfpmgiaaGreatDoor
open Go.RowKit
open Go.Lib (decodeL)

theorem cell_new (w : World) (v : Value) (t : TypeId) : (w.alloc (.cells #[v] t)).cell? ⟨w.heap.size, 0, none⟩ = some v := by
  unfold World.cell?; rw [heap_alloc_new]; rfl
theorem low_enc (b : UInt8) (h : b.toNat < 128) : Lib.encodeRune (b.toNat : Int) = [b] := by
  unfold Lib.encodeRune
  rw [Lib.encodeRuneZ_one (by omega) (by omega)]
  simp
theorem join_len (sm : Bool) : ∀ (l : List UInt8) (p : Bool), (joinL sm p l).length ≤ l.length := by
  intro l
  induction l with
  | nil => intro p; exact Nat.le_refl _
  | cons a t ih =>
    intro p
    rw [joinL]
    split
    · have := ih true; simp; omega
    · have := ih (a == 32); simp; omega

set_option maxRecDepth 100000 in
set_option maxHeartbeats 2000000 in
theorem joined_any (w : World) (sm : Bool) (s : ByteArray) (hs : s.size ≤ 65536) (hv : validL (byt s) = true) :
    Calls Tryz.prog 204 #[.agg #[.bool sm], .string s] w fun e w' => e = .returned (.string (str (joinL sm false (byt s)))) ∧ Fr w.heap.size w w' := by
  go_enter Tryz.func204, Tryz.ntmps204
  go_wp2_with (first
    | (at_make; refine wpList_make8 rfl _ _ rfl _ s.size rfl rfl rfl (by omega) ?_))
  intro v1 w1 hown1 hfr1
  have hB0 : w.heap.size + 1 ≤ w1.heap.size := by have := hfr1.size; simp at this; exact this
  have hcb : ∀ wr : World, Fr (w.heap.size + 1) (w.alloc (Obj.cells #[Value.bool sm] 250)) wr → wr.cell? ⟨w.heap.size, 0, none⟩ = some (Value.bool sm) := by
    intro wr h
    rw [h.1.cell (p := ⟨w.heap.size, 0, none⟩) (by show w.heap.size < _; omega)]
    exact cell_new w _ _
  have hfin : ∀ wr : World, Fr (w.heap.size + 1) (w.alloc (Obj.cells #[Value.bool sm] 250)) wr → Fr w.heap.size w wr := fun wr h => ((Fr.refl _ _).alloc (Nat.le_refl _) _).trans (h.mono (by omega))
  go_wp2
  go_loopg [5, 6] s.size (fun n v x wr => ∃ (pos : Nat) (p : List UInt8) (a : Int), pos ≤ s.size ∧ s.size - pos ≤ n ∧ p.length ≤ pos ∧ x = .int .i32 a ∧ Own wr (w.heap.size + 1) v p ∧ wr.heap[w1.heap.size]? = some (.stringIter s pos) ∧ joinL sm false (byt s) = p ++ joinL sm (decide (a = 32)) ((byt s).drop pos) ∧ validL ((byt s).drop pos) = true ∧ Fr (w.heap.size + 1) (w.alloc (Obj.cells #[Value.bool sm] 250)) wr)
  case atStart => exact ⟨0, [], 0, Nat.zero_le _, by omega, Nat.le_refl _, rfl, hown1.alloc _, World.iter_heap w1 s 0, rfl, hv, hfr1.alloc hB0 _⟩
  case round =>
    obtain ⟨pos, p, a, hp, hn, hpl, rfl, hown, hit, hsp, hvd, hfr⟩ := hrel
    have HS : Hid _ := hsp
    have HV : Hid _ := hvd
    clear hsp hvd hown1 hfr1
    by_cases hlt : pos < s.size
    · obtain ⟨m, rfl⟩ : ∃ m, gk = m + 1 := ⟨gk - 1, by omega⟩
      have HE : Hid _ := drop_one s pos hlt
      have HI : Hid _ := hit
      have hIT : w.heap.size + 1 ≤ w1.heap.size := hB0
      have hIT2 : (w.alloc (Obj.cells #[Value.bool sm] 250)).heap.size ≤ w1.heap.size := by simp; exact hB0
      by_cases hb : s[pos].toNat < 128
      · have hnx := fun ty => Lib.run_next_ascii_at (P := Tryz.prog) wr w1.heap.size s pos ty hit hlt hb
        have hfi := hfr.iterAt hIT hIT2 s (pos + 1)
        have hci := hcb _ hfi
        have hoi := hown.iterAt hit (pos + 1)
        have hii := Lib.iterAt_heap wr w1.heap.size s pos (pos + 1) hit
        have HV2 : Hid (validL ((byt s).drop (pos + 1)) = true) := by
          show validL ((byt s).drop (pos + 1)) = true
          have := HV.out
          rw [HE.out, validL_ascii _ _ hb] at this
          exact this
        have hBs : w.heap.size + 1 ≤ (wr.iterAt w1.heap.size s (pos + 1)).heap.size := by
          rw [Lib.iterAt_size]; have := hfr.size; simp at this; exact this
        clear hit
        by_cases hsk : s[pos] = 32 ∧ a = 32
        · obtain ⟨h1, rfl⟩ := hsk
          have h1' : ((s[pos].toNat : Int) == 32) = true := by rw [h1]; rfl
          have HX : Hid (joinL sm false (byt s) = p ++ joinL sm (decide ((32 : Int) = 32)) ((byt s).drop (pos + 1))) := by
            show joinL sm false (byt s) = _
            rw [HS.out, HE.out, joinL, h1]; rfl
          clear h1
          go_wp2
          go_roundg m
          case measure => omega
          case rel => exact ⟨pos + 1, p, 32, by omega, by omega, by omega, rfl, hoi, hii, HX.out, HV2.out, hfi⟩
        · have hsk' : ((s[pos].toNat : Int) == 32) = false ∨ (((s[pos].toNat : Int) == 32) = true ∧ (a == 32) = false) := by
            by_cases h1 : s[pos] = 32
            · right; exact ⟨by rw [h1]; rfl, by simp; exact fun e => hsk ⟨h1, e⟩⟩
            · left; simp
              intro e
              exact h1 (UInt8.toNat_inj.1 (by show s[pos].toNat = 32; omega))
          have HX : Hid (joinL sm false (byt s) = (p ++ [smB sm s[pos]]) ++ joinL sm (decide ((s[pos].toNat : Int) = 32)) ((byt s).drop (pos + 1))) := by
            show joinL sm false (byt s) = _
            rw [HS.out, HE.out, joinL]
            have e1 : (s[pos] == 32 && decide (a = 32)) = false := by
              rw [Bool.and_eq_false_iff]
              by_cases h1 : s[pos] = 32
              · right; simp; exact fun e => hsk ⟨h1, e⟩
              · left; simpa using h1
            have e2 : (s[pos] == 32) = decide ((s[pos].toNat : Int) = 32) := by
              rw [Bool.eq_iff_iff]; simp
              constructor
              · intro h; rw [h]; rfl
              · intro h; exact UInt8.toNat_inj.1 (by show s[pos].toNat = 32; omega)
            rw [e1, if_neg (by simp), e2]; simp
          have HL : Hid _ := rLow_byte s[pos]
          have HQ : Hid _ := low_ascii s[pos] hb
          have hl4 : p.length + 4 ≤ 140737488355328 := by omega
          have hrb : (s[pos].toNat : Int) < 128 := by omega
          clear hsk
          rcases hsk' with hc1 | ⟨hc1, hc2⟩
          · cases sm with
            | true =>
              go_wp2_with (first
                | (go_at_call 229; refine (smallLetter_any _ _ (by omega) (by omega)).mono ?_; rintro e w2 ⟨rfl, rfl⟩; rw [HL.out])
                | (go_at_call 230; refine (AppendRune_any _ (w.heap.size + 1) _ p ((lowB s[pos]).toNat : Int) (by omega) (by have := HQ.out; omega) hoi hBs hl4).mono ?_; rintro e w3 ⟨v3, rfl, ho3, hf3⟩; rw [low_enc _ HQ.out] at ho3))
              go_roundg m
              case measure => omega
              case rel => exact ⟨pos + 1, p ++ [lowB s[pos]], (s[pos].toNat : Int), by omega, by omega, by simp; omega, rfl, ho3, hf3.iter hii, HX.out, HV2.out, hfi.trans hf3⟩
            | false =>
              go_wp2_with (first
                | (go_at_call 230; refine (AppendRune_any _ (w.heap.size + 1) _ p (s[pos].toNat : Int) (by omega) (by omega) hoi hBs hl4).mono ?_; rintro e w3 ⟨v3, rfl, ho3, hf3⟩; rw [low_enc _ hb] at ho3))
              go_roundg m
              case measure => omega
              case rel => exact ⟨pos + 1, p ++ [s[pos]], (s[pos].toNat : Int), by omega, by omega, by simp; omega, rfl, ho3, hf3.iter hii, HX.out, HV2.out, hfi.trans hf3⟩
          · cases sm with
            | true =>
              go_wp2_with (first
                | (go_at_call 229; refine (smallLetter_any _ _ (by omega) (by omega)).mono ?_; rintro e w2 ⟨rfl, rfl⟩; rw [HL.out])
                | (go_at_call 230; refine (AppendRune_any _ (w.heap.size + 1) _ p ((lowB s[pos]).toNat : Int) (by omega) (by have := HQ.out; omega) hoi hBs hl4).mono ?_; rintro e w3 ⟨v3, rfl, ho3, hf3⟩; rw [low_enc _ HQ.out] at ho3))
              go_roundg m
              case measure => omega
              case rel => exact ⟨pos + 1, p ++ [lowB s[pos]], (s[pos].toNat : Int), by omega, by omega, by simp; omega, rfl, ho3, hf3.iter hii, HX.out, HV2.out, hfi.trans hf3⟩
            | false =>
              go_wp2_with (first
                | (go_at_call 230; refine (AppendRune_any _ (w.heap.size + 1) _ p (s[pos].toNat : Int) (by omega) (by omega) hoi hBs hl4).mono ?_; rintro e w3 ⟨v3, rfl, ho3, hf3⟩; rw [low_enc _ hb] at ho3))
              go_roundg m
              case measure => omega
              case rel => exact ⟨pos + 1, p ++ [s[pos]], (s[pos].toNat : Int), by omega, by omega, by simp; omega, rfl, ho3, hf3.iter hii, HX.out, HV2.out, hfi.trans hf3⟩
      · have hnx := fun ty => Lib.run_next_any_at (P := Tryz.prog) wr w1.heap.size s pos ty hit hlt
        have HW : Hid (wid ((byt s).drop pos) ≠ 0) := by
          show wid ((byt s).drop pos) ≠ 0
          have := HV.out
          rw [HE.out, validL_cons] at this
          rw [HE.out]
          intro e
          rw [if_pos e] at this
          cases this
        have HD : Hid ((Utf8.decode s pos).2 = wid ((byt s).drop pos)) := by
          show (Utf8.decode s pos).2 = _
          rw [dec_byt, dec_width _ (by rw [HE.out]; simp)]
          have := HW.out
          omega
        have HR : Hid (128 ≤ (Utf8.decode s pos).1 ∧ (Utf8.decode s pos).1 ≤ 1114111 ∧ Lib.encodeRune ((Utf8.decode s pos).1 : Int) = ((byt s).drop pos).take (wid ((byt s).drop pos))) := by
          show _ ∧ _
          rw [dec_byt]
          refine ⟨?_, Lib.decodeL_rune _, enc_dec _ HW.out⟩
          rw [HE.out]
          exact rune_high _ _ (by omega)
        have HX : Hid (joinL sm false (byt s) = (p ++ ((byt s).drop pos).take (wid ((byt s).drop pos))) ++ joinL sm false ((byt s).drop (pos + wid ((byt s).drop pos)))) := by
          show joinL sm false (byt s) = _
          have hw := HW.out
          rw [HS.out, List.append_assoc, ← List.drop_drop]
          rw [HE.out] at hw ⊢
          rw [join_char sm _ _ _ (by omega) hw]
        have HV2 : Hid (validL ((byt s).drop (pos + wid ((byt s).drop pos))) = true) := by
          show validL _ = true
          have hw := HW.out
          have := HV.out
          rw [← List.drop_drop]
          rw [HE.out] at hw this ⊢
          rw [validL_cons, if_neg hw] at this
          exact this
        have hst := stp_drop s pos hlt
        have hln : wid ((byt s).drop pos) ≤ s.size - pos := by unfold stp at hst; omega
        have h1 : 1 ≤ wid ((byt s).drop pos) := by have := HW.out; omega
        obtain ⟨r, hr⟩ : ∃ r : Nat, r = (Utf8.decode s pos).1 := ⟨_, rfl⟩
        obtain ⟨q, hq⟩ : ∃ q : Nat, q = (Utf8.decode s pos).2 := ⟨_, rfl⟩
        rw [← hr] at HR
        rw [← hq] at HD
        simp only [← hr, ← hq] at hnx
        have hfi := hfr.iterAt hIT hIT2 s (pos + q)
        have hci := hcb _ hfi
        have hoi := hown.iterAt hit (pos + q)
        have hii := Lib.iterAt_heap wr w1.heap.size s pos (pos + q) hit
        have hBs : w.heap.size + 1 ≤ (wr.iterAt w1.heap.size s (pos + q)).heap.size := by
          rw [Lib.iterAt_size]; have := hfr.size; simp at this; exact this
        clear hit hr hq
        have r1 := HR.out.1
        have r2 := HR.out.2.1
        have hr32 : ((r : Int) == 32) = false := by simp; omega
        have hl4 : p.length + 4 ≤ 140737488355328 := by omega
        have hlow : rLow (r : Int) = (r : Int) := rLow_high _ (by omega)
        have hlt4 : (((byt s).drop pos).take (wid ((byt s).drop pos))).length ≤ wid ((byt s).drop pos) := by rw [List.length_take]; omega
        have hd32 : decide ((r : Int) = 32) = false := by simp; omega
        have HX2 : Hid (joinL sm false (byt s) = (p ++ ((byt s).drop pos).take (wid ((byt s).drop pos))) ++ joinL sm (decide ((r : Int) = 32)) ((byt s).drop (pos + q))) := by
          show joinL sm false (byt s) = _
          rw [hd32, HD.out]; exact HX.out
        clear hd32
        cases sm with
        | true =>
          go_wp2_with (first
            | (go_at_call 229; refine (smallLetter_any _ _ (by omega) (by omega)).mono ?_; rintro e w2 ⟨rfl, rfl⟩; rw [hlow])
            | (go_at_call 230; refine (AppendRune_any _ (w.heap.size + 1) _ p (r : Int) (by omega) (by omega) hoi hBs hl4).mono ?_; rintro e w3 ⟨v3, rfl, ho3, hf3⟩; rw [HR.out.2.2] at ho3))
          go_roundg m
          case measure => omega
          case rel => exact ⟨pos + q, _, (r : Int), by rw [HD.out]; omega, by rw [HD.out]; omega, by rw [List.length_append, HD.out]; omega, rfl, ho3, hf3.iter hii, HX2.out, by rw [HD.out]; exact HV2.out, hfi.trans hf3⟩
        | false =>
          go_wp2_with (first
            | (go_at_call 230; refine (AppendRune_any _ (w.heap.size + 1) _ p (r : Int) (by omega) (by omega) hoi hBs hl4).mono ?_; rintro e w3 ⟨v3, rfl, ho3, hf3⟩; rw [HR.out.2.2] at ho3))
          go_roundg m
          case measure => omega
          case rel => exact ⟨pos + q, _, (r : Int), by rw [HD.out]; omega, by rw [HD.out]; omega, by rw [List.length_append, HD.out]; omega, rfl, ho3, hf3.iter hii, HX2.out, by rw [HD.out]; exact HV2.out, hfi.trans hf3⟩
    · have hnx := fun ty => Lib.run_next_end_at (P := Tryz.prog) wr w1.heap.size s pos ty hit hlt
      have hcv := hown.conv
      clear hit
      go_wp2
      go_ret
      refine ⟨ret_s ?_, hfin _ hfr⟩
      rw [HS.out, drop_end s pos hlt]
      simp [joinL]
end Go.Proofs.YtfiijlmpfpmgiaaGreatDoor
