/-
  The contract of Valid: whether no byte of a text stands alone.
-/
import Derived.Test.YtimjmecogbkgfaaGreatDoorStrsToWidth
import Derived.Test.YtimjmecogbkgfaaGreatDoorMathEToLeaf
import Derived.Lib.AppendStr
import Derived.Test.YtimjmecogbkgfaaGreatDoorDigToPj
namespace Go.Proofs.YtimjmecogbkgfaaGreatDoor
open Go.RowKit

theorem Tab.below {w w' : World} {g off cap B : Nat} (h : Tab w g off cap) (hb : Below B w w') (hB : w.heap.size ≤ B) : Tab w' g off cap := by
  have hg : g < B := Nat.lt_of_lt_of_le (World.block_lt_of_cell? w _ (h.c0 0 (by omega))) hB
  have h0 : 0 < B := Nat.lt_of_lt_of_le (World.block_lt_of_cell? w _ h.var) hB
  exact ⟨(hb.cell (p := ⟨0, 0, none⟩) h0).trans h.var, fun k hk => (hb.cell (p := ⟨g, _, none⟩) hg).trans (h.c0 k hk), fun k hk => (hb.cell (p := ⟨g, _, none⟩) hg).trans (h.c1 k hk),
    fun k hk => (hb.cell (p := ⟨g, _, none⟩) hg).trans (h.c2 k hk), fun k hk => (hb.cell (p := ⟨g, _, none⟩) hg).trans (h.c3 k hk), fun k hk => (hb.cell (p := ⟨g, _, none⟩) hg).trans (h.c4 k hk)⟩
theorem Fr.iterAt {a w : World} {B : Nat} (h : Fr B a w) {k : Nat} (hB : B ≤ k) (hk : a.heap.size ≤ k) (s : ByteArray) (pos : Nat) : Fr B a (w.iterAt k s pos) := by
  refine ⟨Lib.below_iterAt h.1 hB s pos, fun i o h1 h2 h3 => ?_⟩
  have hi : i < a.heap.size := (Array.getElem?_eq_some_iff.1 h1).1
  rw [Lib.iterAt_other w k i s pos (by omega)]
  exact h.2 i o h1 h2 h3

/-- an iterator behind a call that was made in the world with the iterator moved on -/
theorem iter_kept {wr w2 : World} {IT : Nat} {s : ByteArray} {pos p2 : Nat} (hit : wr.heap[IT]? = some (.stringIter s pos)) (hf : Fr (wr.iterAt IT s p2).heap.size (wr.iterAt IT s p2) w2) : w2.heap[IT]? = some (.stringIter s p2) := by
  have hlt : IT < wr.heap.size := (Array.getElem?_eq_some_iff.1 hit).1
  rw [hf.1.block IT (by rw [Lib.iterAt_size]; exact hlt)]
  exact Lib.iterAt_heap wr IT s pos p2 hit
theorem fr_iter_call {w wr w2 : World} {IT B : Nat} {s : ByteArray} {p2 : Nat} (hfr : Fr B w wr) (hB : B ≤ IT) (hI : w.heap.size ≤ IT) (hBw : B ≤ w.heap.size) (hf : Fr (wr.iterAt IT s p2).heap.size (wr.iterAt IT s p2) w2) : Fr B w w2 :=
  (hfr.iterAt hB hI s p2).trans (hf.mono (by rw [Lib.iterAt_size]; exact Nat.le_trans hBw hfr.size))

set_option maxRecDepth 100000 in
set_option maxHeartbeats 1000000 in
theorem Valid_any (w : World) (g off cap : Nat) (ht : Tab w g off cap) (s : ByteArray) (hs2 : s.size ≤ 140737488355328) :
    Calls Tryz.prog 20 #[.string s] w fun e w' => e = .returned (.bool (validL (byt s))) ∧ Fr w.heap.size w w' := by
  go_enter Tryz.func20, Tryz.ntmps20
  go_wp2
  go_loopg [] s.size (fun n wr => ∃ pos : Nat, pos ≤ s.size ∧ s.size - pos ≤ n ∧ wr.heap[w.heap.size]? = some (.stringIter s pos) ∧ validL (byt s) = validGo n ((byt s).drop pos) ∧ Fr w.heap.size w wr)
  case atStart => exact ⟨0, Nat.zero_le _, by omega, World.iter_heap w s 0, by rw [← byt_length]; rfl, (Fr.refl _ _).alloc (Nat.le_refl _) _⟩
  case round =>
    obtain ⟨pos, hp, hn, hit, hsp, hfr⟩ := hrel
    have HS : Hid _ := hsp
    clear hsp
    by_cases hlt : pos < s.size
    · obtain ⟨m, rfl⟩ : ∃ m, gk = m + 1 := ⟨gk - 1, by omega⟩
      have hnx := fun ty => Lib.run_next_any_at (P := Tryz.prog) wr w.heap.size s pos ty hit hlt
      have HD : Hid _ := decode_wid s pos hlt
      have HI : Hid _ := hit
      have HE : Hid _ := drop_one s pos hlt
      have htW := ht.below (hfr.iterAt (Nat.le_refl _) (Nat.le_refl _) s (pos + (Utf8.decode s pos).2)).1 (Nat.le_refl _)
      have hsz : 0 < (s.extract pos s.size).size := by rw [size_from]; omega
      have hsz2 : (s.extract pos s.size).size ≤ 140737488355328 := by rw [size_from]; omega
      have HW : Hid (wid (byt (s.extract pos s.size)) = wid ((byt s).drop pos)) := by rw [byt_from]; rfl
      clear hit
      by_cases hw : wid (byt (s.extract pos s.size)) = 0
      · have hw' : ((wid (byt (s.extract pos s.size)) : Int) == 0) = true := by rw [hw]; rfl
        have HV : Hid (validL (byt s) = false) := by
          show validL (byt s) = false
          rw [HS.out, validGo, HE.out, ← HE.out]
          rw [HW.out] at hw
          rw [if_neg (by rw [HE.out]; simp), if_pos hw]
        clear hw
        go_wp2_with (go_at_call 38; refine (width_any _ g off cap htW _ hsz hsz2).mono ?_; rintro e w2 ⟨rfl, hf2⟩)
        go_ret
        exact ⟨ret_b HV.out.symm, fr_iter_call hfr (Nat.le_refl _) (Nat.le_refl _) (Nat.le_refl _) (by assumption)⟩
      · have hw' : ((wid (byt (s.extract pos s.size)) : Int) == 0) = false := by simp; omega
        go_wp2_with (go_at_call 38; refine (width_any _ g off cap htW _ hsz hsz2).mono ?_; rintro e w2 ⟨rfl, hf2⟩)
        go_roundg m
        case measure => omega
        case rel =>
          have h1 := stp_drop s pos hlt
          have h2 := one_stp ((byt s).drop pos)
          have hd : (Utf8.decode s pos).2 = stp ((byt s).drop pos) := HD.out
          refine ⟨pos + (Utf8.decode s pos).2, by omega, by omega, iter_kept HI.out hf2, ?_, fr_iter_call hfr (Nat.le_refl _) (Nat.le_refl _) (Nat.le_refl _) hf2⟩
          rw [HW.out] at hw
          rw [HS.out, validGo, if_neg (by rw [HE.out]; simp), if_neg hw, List.drop_drop, hd]
    · have hnx := fun ty => Lib.run_next_end_at (P := Tryz.prog) wr w.heap.size s pos ty hit hlt
      clear hit
      go_wp2
      go_ret
      refine ⟨ret_b ?_, hfr⟩
      rw [HS.out, drop_end s pos hlt]
      cases gk <;> rfl
end Go.Proofs.YtimjmecogbkgfaaGreatDoor

/-
  An owned slice of bytes beside a string's iterator; a string's bytes appended.
-/
namespace Go.Proofs.YtimjmecogbkgfaaGreatDoor
open Go.RowKit

theorem Own.below {w w' : World} {B : Nat} {v : Value} {l : List UInt8} (h : Own w B v l) (hb : Below w.heap.size w w') : Own w' B v l := by
  refine ⟨h.1, ?_⟩
  rcases h.2 with h2 | ⟨g, cap, cur, hv, hg, hh, r⟩
  · exact .inl h2
  · exact .inr ⟨g, cap, cur, hv, hg, by rw [hb.block g (Array.getElem?_eq_some_iff.1 hh).1]; exact hh, r⟩
theorem Own.iterAt {w : World} {B : Nat} {v : Value} {l : List UInt8} (h : Own w B v l) {k : Nat} {s : ByteArray} {pos : Nat} (hk : w.heap[k]? = some (.stringIter s pos)) (p2 : Nat) : Own (w.iterAt k s p2) B v l := by
  refine ⟨h.1, ?_⟩
  rcases h.2 with h2 | ⟨g, cap, cur, hv, hg, hh, r⟩
  · exact .inl h2
  · have hne : g ≠ k := by intro e; rw [e, hk] at hh; cases hh
    exact .inr ⟨g, cap, cur, hv, hg, by rw [Lib.iterAt_other w k g s p2 hne]; exact hh, r⟩
theorem Fr.iter {B : Nat} {w w' : World} (h : Fr B w w') {k : Nat} {s : ByteArray} {pos : Nat} (hk : w.heap[k]? = some (.stringIter s pos)) : w'.heap[k]? = some (.stringIter s pos) :=
  h.2 k _ hk (fun e => by cases e) (fun _ _ e => by cases e)
/-- an owned slice behind a call that was made in the world with the iterator moved on -/
theorem own_kept {wr w2 : World} {IT B : Nat} {v : Value} {l : List UInt8} {s : ByteArray} {pos p2 : Nat} (h : Own wr B v l) (hit : wr.heap[IT]? = some (.stringIter s pos)) (hf : Fr (wr.iterAt IT s p2).heap.size (wr.iterAt IT s p2) w2) : Own w2 B v l :=
  (h.iterAt hit p2).below hf.1

/-- 'append(v, s...)', s a string -/
theorem wpList_pushS {w : World} {ops : Array Oper} {rest : List Oper} {o : Oper} {a : Act} {Q : Exit → Act → World → Prop} (hgd : o.guard = none) (sl x : Operand)
    (ho : o.op = .call { callee := .builtin .append, args := #[sl, x], argTypes := #[75, 9] })
    (B : Nat) (v : Value) (l : List UInt8) (hown : Own w B v l) (hB : B ≤ w.heap.size) (hs : a.eval sl = v) (s : ByteArray) (hx : a.eval x = .string s) (hlen : l.length + s.size ≤ 140737488355328)
    (h : ∀ v' w', Own w' B v' (l ++ byt s) → Fr B w w' → wpList Tryz.prog ops Q rest (a.put o.dst v') w') : wpList Tryz.prog ops Q (o :: rest) a w := by
  obtain ⟨i0, hi0, hz0, hz1, hz2⟩ := info_parts info8
  refine Lib.wpList_append_own_string _ hgd sl x 75 9 ho B 5 i0 Tryz.underlying75 Tryz.underlying9 hi0 hz0 hz1 hz2 v l.length (l.map B8) hs hown s hx (by unfold maxLen; omega) hlen hB ?_
  intro v' w' h1 h2 _
  exact h v' w' (own_of h1 (by rw [List.length_append, byt_length]) (by simp [Lib.strCells, byt, B8])) (hown.grown hB (Fr.refl B w) h2)
end Go.Proofs.YtimjmecogbkgfaaGreatDoor

/-
  Well-formed texts: put together, cut, their letters small.
-/
namespace Go.Proofs.YtimjmecogbkgfaaGreatDoor

theorem validGo_fuel : ∀ n m (l : List UInt8), l.length ≤ n → l.length ≤ m → validGo n l = validGo m l := by
  intro n
  induction n with
  | zero =>
    intro m l h _
    have : l = [] := List.eq_nil_of_length_eq_zero (by omega)
    subst this; rw [validGo_nil, validGo_nil]
  | succ n ih =>
    intro m l h1 h2
    cases l with
    | nil => rw [validGo_nil, validGo_nil]
    | cons a t =>
      cases m with
      | zero => simp at h2
      | succ m =>
        rw [validGo, validGo]
        have hs := one_stp (a :: t)
        rw [ih m _ (by rw [List.length_drop]; omega) (by rw [List.length_drop]; omega)]
theorem validL_nil : validL [] = true := rfl
theorem validL_cons (a : UInt8) (t : List UInt8) : validL (a :: t) = if wid (a :: t) = 0 then false else validL ((a :: t).drop (wid (a :: t))) := by
  unfold validL
  rw [List.length_cons, validGo, if_neg (by simp)]
  split
  · rfl
  · rename_i h
    have e : stp (a :: t) = wid (a :: t) := by unfold stp; omega
    rw [e]
    exact validGo_fuel _ _ _ (by rw [List.length_drop, List.length_cons]; omega) (Nat.le_refl _)
theorem validL_ascii (a : UInt8) (t : List UInt8) (h : a.toNat < 128) : validL (a :: t) = validL t := by
  rw [validL_cons, wid_ascii a t h, if_neg (by omega)]; rfl
/-- by characters -/
theorem valid_ind {p : List UInt8 → Prop} (h0 : p []) (hs : ∀ a t, wid (a :: t) ≠ 0 → validL ((a :: t).drop (wid (a :: t))) = true → p ((a :: t).drop (wid (a :: t))) → p (a :: t)) : ∀ l, validL l = true → p l := by
  have : ∀ n (l : List UInt8), l.length ≤ n → validL l = true → p l := by
    intro n
    induction n with
    | zero => intro l h _; have : l = [] := List.eq_nil_of_length_eq_zero (by omega); subst this; exact h0
    | succ n ih =>
      intro l h hv
      cases l with
      | nil => exact h0
      | cons a t =>
        rw [validL_cons] at hv
        split at hv
        · cases hv
        · rename_i hw
          exact hs a t hw hv (ih _ (by rw [List.length_drop]; simp at h; simp; omega) hv)
  exact fun l => this l.length l (Nat.le_refl _)
theorem drop_app_le (a b : List UInt8) (k : Nat) (h : k ≤ a.length) : (a ++ b).drop k = a.drop k ++ b := List.drop_append_of_le_length h
theorem valid_app (b : List UInt8) : ∀ a, validL a = true → validL (a ++ b) = validL b := by
  refine valid_ind rfl ?_
  intro a t hw _ ih
  have hle := wid_le (a :: t)
  rw [List.cons_append, validL_cons, ← List.cons_append, wid_app _ _ hw, if_neg hw, drop_app_le _ _ _ hle, ih]
/-- a byte of the first 128 behind -/
theorem wid_snoc (l : List UInt8) (b : UInt8) (hb : b.toNat < 128) (hl : l ≠ []) (h : wid (l ++ [b]) ≠ 0) : wid l ≠ 0 := by
  cases l with
  | nil => exact absurd rfl hl
  | cons a t =>
    rw [List.cons_append] at h
    obtain ⟨k, h1, h2, h3, h4, h5⟩ := wid_row_of a (t ++ [b]) h
    have hlen : rowW k ≤ (a :: t).length := by
      by_cases hc : rowW k ≤ (a :: t).length
      · exact hc
      · exfalso
        simp only [List.length_cons, List.length_append, List.length_nil] at h3 hc
        have hj := h4 (t.length + 1) (by omega) (by omega)
        unfold tl at hj
        have e : (a :: (t ++ [b]))[t.length + 1]? = some b := by simp
        rw [e] at hj
        simp only [Bool.and_eq_true, decide_eq_true_eq] at hj
        have : 128 ≤ lowOf k (t.length + 1) := by
          unfold lowOf; split
          · exact rowA_high k (by omega)
          · omega
        omega
    rw [h5 t, widAt_good _ _ hlen]
    · have := (row_bd k)
      intro e
      rw [h2, e] at h
      exact h rfl
    · intro j hj1 hj2
      have ht := h4 j hj1 hj2
      unfold tl at ht ⊢
      rw [← List.cons_append, List.getElem?_append_left (by omega)] at ht
      exact ht
theorem valid_snoc (b : UInt8) (hb : b.toNat < 128) : ∀ n (l : List UInt8), l.length ≤ n → validL (l ++ [b]) = validL l := by
  intro n
  induction n with
  | zero =>
    intro l h
    have : l = [] := List.eq_nil_of_length_eq_zero (by omega)
    subst this; rw [List.nil_append, validL_ascii b [] hb]
  | succ n ih =>
    intro l h
    cases l with
    | nil => rw [List.nil_append, validL_ascii b [] hb]
    | cons a t =>
      by_cases hw : wid (a :: t) = 0
      · have h2 : wid (a :: t ++ [b]) = 0 := by
          by_cases hc : wid (a :: t ++ [b]) = 0
          · exact hc
          · exact absurd hw (wid_snoc (a :: t) b hb (by simp) hc)
        rw [validL_cons, if_pos hw, List.cons_append, validL_cons, ← List.cons_append, if_pos h2]
      · have hle := wid_le (a :: t)
        rw [validL_cons a t, if_neg hw, List.cons_append, validL_cons, ← List.cons_append, wid_app _ _ hw, if_neg hw, drop_app_le _ _ _ hle]
        refine ih _ ?_
        rw [List.length_drop]; simp at h ⊢; omega
theorem valid_last (l : List UInt8) (b : UInt8) (hb : b.toNat < 128) : validL (l ++ [b]) = validL l := valid_snoc b hb _ l (Nat.le_refl _)

theorem low_ascii (b : UInt8) (h : b.toNat < 128) : (lowB b).toNat < 128 := by
  unfold lowB; split
  · rename_i hc
    simp only [Bool.and_eq_true, decide_eq_true_eq] at hc
    have : b.toNat + 32 < 256 := by omega
    simp [Nat.mod_eq_of_lt this]; omega
  · exact h
theorem sm_ascii (sm : Bool) (b : UInt8) (h : b.toNat < 128) : (smB sm b).toNat < 128 := by
  unfold smB; split
  · exact low_ascii b h
  · exact h
/-- what is joined is well-formed, if it was -/
theorem valid_join (sm : Bool) : ∀ l, validL l = true → ∀ p, validL (joinL sm p l) = true := by
  refine valid_ind (fun _ => rfl) ?_
  intro a t hw hv ih p
  by_cases ha : a.toNat < 128
  · have e : (a :: t).drop (wid (a :: t)) = t := by rw [wid_ascii a t ha]; rfl
    rw [e] at ih
    rw [joinL]
    split
    · exact ih _
    · rw [validL_ascii _ _ (sm_ascii sm a ha)]; exact ih _
  · rw [join_char sm p a t (by omega) hw]
    have hc : validL ((a :: t).take (wid (a :: t))) = true := by
      have h1 := wid_chunk (a :: t) [] hw
      rw [List.append_nil] at h1
      have hl : ((a :: t).take (wid (a :: t))).length = wid (a :: t) := by rw [List.length_take]; have := wid_le (a :: t); omega
      cases hx : (a :: t).take (wid (a :: t)) with
      | nil => rfl
      | cons x y =>
        rw [hx] at h1 hl
        rw [validL_cons, h1, if_neg hw, List.drop_eq_nil_of_le (by omega)]; rfl
    rw [valid_app _ _ hc]
    exact ih _
theorem valid_trimA : ∀ l, validL l = true → validL (trimA l) = true := by
  intro l
  induction l with
  | nil => intro h; exact h
  | cons a t ih =>
    intro h
    unfold trimA
    by_cases ha : a = 32
    · subst ha
      rw [List.dropWhile_cons_of_pos (by rfl)]
      rw [validL_ascii _ _ (by decide)] at h
      exact ih h
    · rw [List.dropWhile_cons_of_neg (by simpa using ha)]; exact h
theorem trimZ_snoc (l : List UInt8) (b : UInt8) : trimZ (l ++ [b]) = if b = 32 then trimZ l else l ++ [b] := by
  unfold trimZ
  rw [List.reverse_append, List.reverse_singleton, List.singleton_append]
  split
  · rename_i h; subst h; rw [List.dropWhile_cons_of_pos (by rfl)]
  · rename_i h; rw [List.dropWhile_cons_of_neg (by simpa using h)]; simp
theorem snoc_ind {p : List UInt8 → Prop} (h0 : p []) (hs : ∀ l b, p l → p (l ++ [b])) : ∀ l, p l := by
  intro l
  rw [← List.reverse_reverse l]
  induction l.reverse with
  | nil => exact h0
  | cons a t ih => rw [List.reverse_cons]; exact hs _ _ ih
theorem valid_trimZ : ∀ l, validL l = true → validL (trimZ l) = true := by
  refine snoc_ind (fun h => h) ?_
  intro l b ih h
  rw [trimZ_snoc]
  split
  · rename_i hb
    subst hb
    rw [valid_last l 32 (by decide)] at h
    exact ih h
  · exact h
end Go.Proofs.YtimjmecogbkgfaaGreatDoor
