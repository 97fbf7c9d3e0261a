/-
  Plain: what Check took has small texts; a filter's text as pieces.
-/
import Derived.Test.YtkfmlijlfdaobaaGreatDoorQI
import Derived.Test.YtkfmlijlfdaobaaGreatDoorMathN
namespace Go.Proofs.YtkfmlijlfdaobaaGreatDoor
open Go.RowKit

/-- no text is too long -/
def smallO (a : OwnF) : Prop := a.desc.size ≤ 65536 ∧ a.value.size ≤ 65536 ∧ a.start.size ≤ 65536 ∧ a.fin.size ≤ 65536 ∧ a.rule.size ≤ 65536 ∧ ∀ m ∈ a.ms, m.size ≤ 65536
def smallF : FT → Prop
  | .nil => True
  | .cons a k r => smallO a ∧ smallF k ∧ smallF r
theorem long_small {a : OwnF} (h : ¬ longO a = true) : smallO a := by
  unfold longO longB OwnF.f9 max5N at h
  simp only [Bool.or_eq_true, decide_eq_true_eq, List.any_eq_true, not_or, not_exists, not_and] at h
  obtain ⟨h1, h2⟩ := h
  refine ⟨by omega, by omega, by omega, by omega, by omega, fun m hm => ?_⟩
  have := h2 m hm
  omega
theorem chk_small : ∀ (x : FT) (L n d : Nat), (chk x L n d).1 = 0 → smallF x
  | .nil, _, _, _, _ => trivial
  | .cons a kids rest, L, n, d, h => by
    rw [chk_cons] at h
    by_cases h0 : (chk1 a kids L n d).1 = 0
    · have hn : ¬ (chk1 a kids L n d).1 ≠ 0 := fun k => k h0
      rw [if_neg hn] at h
      by_cases h1 : 64 < L
      · rw [chk1_deep h1] at h0; simp at h0
      · by_cases h2 : 65536 < upN a n ∨ longO a = true
        · rw [chk1_long h1 h2] at h0; simp at h0
        · by_cases h3 : mayO a kids.len = false
          · rw [chk1_not h1 h2 h3] at h0; simp at h0
          · rw [chk1_go h1 h2 h3] at h0
            exact ⟨long_small (fun k => h2 (.inr k)), chk_small kids _ _ _ h0, chk_small rest _ _ _ h⟩
    · rw [if_pos h0] at h
      exact absurd h h0
theorem chk1_small {a : OwnF} {kids : FT} {L n d : Nat} (h0 : (chk1 a kids L n d).1 = 0) : smallO a ∧ smallF kids := by
  have h : (chk (.cons a kids .nil) L n d).1 = 0 := by
    rw [chk_cons, if_neg (fun k => k h0)]
    rfl
  have := chk_small _ _ _ _ h
  exact ⟨this.1, this.2.1⟩
theorem check_small {a : OwnF} {kids : FT} (h : (checkL a kids).1 = 0) : smallO a ∧ smallF kids := by
  unfold checkL at h
  split at h
  · rename_i h0; exact chk1_small h0
  · rename_i h0; exact absurd h h0
theorem chk1_level {a : OwnF} {kids : FT} {L n d : Nat} (h0 : (chk1 a kids L n d).1 = 0) : L ≤ 64 ∧ upN a n ≤ 65536 ∧ longO a = false ∧ mayO a kids.len = true ∧ chk1 a kids L n d = chk kids (L + 1) (upN a n) (max d L) := by
  by_cases h1 : 64 < L
  · rw [chk1_deep h1] at h0; simp at h0
  · by_cases h2 : 65536 < upN a n ∨ longO a = true
    · rw [chk1_long h1 h2] at h0; simp at h0
    · by_cases h3 : mayO a kids.len = false
      · rw [chk1_not h1 h2 h3] at h0; simp at h0
      · refine ⟨by omega, by omega, ?_, by simpa using h3, chk1_go h1 h2 h3⟩
        cases hl : longO a
        · rfl
        · exact absurd (.inr hl) h2
theorem chk_two {a : OwnF} {k r : FT} {L n d : Nat} (h : (chk (.cons a k r) L n d).1 = 0) : (chk1 a k L n d).1 = 0 ∧ chk (.cons a k r) L n d = chk r L (chk1 a k L n d).2.1 (chk1 a k L n d).2.2 := by
  rw [chk_cons] at h ⊢
  by_cases h0 : (chk1 a k L n d).1 = 0
  · exact ⟨h0, if_neg (fun k => k h0)⟩
  · rw [if_pos h0] at h; exact absurd h h0
def OkO (a : OwnF) : Prop := 0 ≤ a.kind ∧ a.kind ≤ 9 ∧ smallO a
def OkF : FT → Prop
  | .nil => True
  | .cons a k r => OkO a ∧ OkF k ∧ OkF r
theorem may_kind {a : OwnF} {n : Nat} (h : mayO a n = true) : 0 ≤ a.kind ∧ a.kind ≤ 9 := by
  have h1 : rightF (a.f9 n) a.ms = true := by unfold mayO mayF at h; exact (Bool.and_eq_true _ _ ▸ h).1
  have hk : (a.f9 n).kind = a.kind := rfl
  unfold rightF at h1
  rw [hk] at h1
  by_cases c : 0 ≤ a.kind ∧ a.kind ≤ 9
  · exact c
  · rw [if_neg (by omega), if_neg (by omega), if_neg (by omega), if_neg (by omega), if_neg (by omega), if_neg (by omega)] at h1
    cases h1
theorem chk1_okO {a : OwnF} {k : FT} {L n d : Nat} (h0 : (chk1 a k L n d).1 = 0) : OkO a := by
  obtain ⟨h2, h3, h4, h5, h6⟩ := chk1_level h0
  exact ⟨(may_kind h5).1, (may_kind h5).2, (chk1_small h0).1⟩
theorem chk_ok : ∀ (x : FT) (L n d : Nat), (chk x L n d).1 = 0 → OkF x
  | .nil, _, _, _, _ => trivial
  | .cons a k r, L, n, d, h => by
    obtain ⟨h0, h1⟩ := chk_two h
    rw [h1] at h
    have ho := chk1_okO h0
    obtain ⟨h2, h3, h4, h5, h6⟩ := chk1_level h0
    rw [h6] at h0
    exact ⟨ho, chk_ok k _ _ _ h0, chk_ok r _ _ _ h⟩
theorem check_ok {a : OwnF} {k : FT} (h : (checkL a k).1 = 0) : OkO a ∧ OkF k := by
  unfold checkL at h
  by_cases h0 : (chk1 a k 1 0 0).1 = 0
  · have ho := chk1_okO h0
    obtain ⟨h2, h3, h4, h5, h6⟩ := chk1_level h0
    rw [h6] at h0
    exact ⟨ho, chk_ok k _ _ _ h0⟩
  · rw [if_neg h0] at h; exact absurd h h0

theorem escC_len (a : UInt8) (t : List UInt8) : (escC (a :: t)).length ≤ 3 * stp (a :: t) := by
  by_cases h : wid (a :: t) = 0 ∨ resv a.toNat = true
  · rw [escC_bs a t h]
    have : 1 ≤ stp (a :: t) := by unfold stp; omega
    simp only [hex1, List.length_cons, List.length_nil]; omega
  · rw [escC_plain a t h, List.length_take]
    have : wid (a :: t) ≤ stp (a :: t) := by unfold stp; omega
    omega
theorem stp_le2 (a : UInt8) (t : List UInt8) : stp (a :: t) ≤ (a :: t).length := by
  have := wid_le (a :: t)
  unfold stp; simp only [List.length_cons] at *; omega
theorem escGo_len : ∀ (n : Nat) (l : List UInt8), (escGo n l).length ≤ 3 * l.length
  | 0, l => by simp [escGo]
  | n + 1, [] => by simp [escGo]
  | n + 1, a :: t => by
    rw [escGo_cons, List.length_append]
    have h1 := escC_len a t
    have h2 := escGo_len n ((a :: t).drop (stp (a :: t)))
    have h3 := stp_le2 a t
    rw [List.length_drop] at h2
    omega
theorem escL_len (l : List UInt8) : (escL l).length ≤ 3 * l.length := escGo_len _ _
theorem escS_len (s : ByteArray) (h : s.size ≤ 65536) : (escL (byt s)).length ≤ 196608 := by
  have := escL_len (byt s)
  rw [byt_length] at this
  omega

/-- the pieces of a filter's text, given its kids' -/
def midsC (ms : List ByteArray) : List (List UInt8) := ms.flatMap fun m => [escL (byt m), [42]]
def piecesC (a : OwnF) : List (List UInt8) := [byt a.desc, [61], escL (byt a.start), [42]] ++ (midsC a.ms ++ [escL (byt a.fin)])
def ruledC (a : OwnF) : List (List UInt8) := byt a.desc :: ((if a.dn then [[58, 100, 110]] else []) ++ ((if a.rule.size = 0 then [] else [[58], byt a.rule]) ++ [[], [58, 61], escL (byt a.value)]))
def bodyC (a : OwnF) (kids : List (List UInt8)) : List (List UInt8) :=
  if a.kind = 0 then [38] :: kids else if a.kind = 1 then [124] :: kids else if a.kind = 2 then [33] :: kids
  else if a.kind = 3 then [byt a.desc, [61], escL (byt a.value)] else if a.kind = 8 then [byt a.desc, [126, 61], escL (byt a.value)]
  else if a.kind = 5 then [byt a.desc, [62, 61], escL (byt a.value)] else if a.kind = 6 then [byt a.desc, [60, 61], escL (byt a.value)]
  else if a.kind = 7 then [byt a.desc, [61, 42]] else if a.kind = 4 then piecesC a else ruledC a
def oneC (a : OwnF) (kids : List (List UInt8)) : List (List UInt8) := [40] :: (bodyC a kids ++ [[41]])
def kidsC : FT → List (List UInt8)
  | .nil => []
  | .cons a k r => oneC a (kidsC k) ++ kidsC r
/-- none is too long -/
def Low (cs : List (List UInt8)) : Prop := ∀ t ∈ cs, t.length ≤ 200000
theorem Low.app {a b : List (List UInt8)} (ha : Low a) (hb : Low b) : Low (a ++ b) := fun t ht => (List.mem_append.1 ht).elim (ha t) (hb t)
theorem Low.cons {a : List UInt8} {b : List (List UInt8)} (ha : a.length ≤ 200000) (hb : Low b) : Low (a :: b) := fun t ht => (List.mem_cons.1 ht).elim (fun e => e ▸ ha) (hb t)
theorem low_nil : Low [] := fun _ h => by cases h
theorem low_txt {s : ByteArray} (h : s.size ≤ 65536) : (byt s).length ≤ 200000 := by rw [byt_length]; omega
theorem low_esc {s : ByteArray} (h : s.size ≤ 65536) : (escL (byt s)).length ≤ 200000 := by have := escS_len s h; omega
theorem low_mids : ∀ {ms : List ByteArray}, (∀ m ∈ ms, m.size ≤ 65536) → Low (midsC ms)
  | [], _ => low_nil
  | m :: r, h => by
    show Low ([escL (byt m), [42]] ++ midsC r)
    exact (Low.cons (low_esc (h m (by simp))) (Low.cons (by decide) low_nil)).app (low_mids (fun x hx => h x (by simp [hx])))
theorem low_one {a : OwnF} (h : smallO a) {kids : List (List UInt8)} (hk : Low kids) : Low (oneC a kids) := by
  obtain ⟨s1, s2, s3, s4, s5, s6⟩ := h
  have t1 := low_txt s1
  have e2 := low_esc s2
  have hm := low_mids s6
  have hr : Low (if a.rule.size = 0 then [] else [[58], byt a.rule]) := by
    split
    · exact low_nil
    · exact Low.cons (by decide) (Low.cons (low_txt s5) low_nil)
  have hd : Low (if a.dn then [[58, 100, 110]] else []) := by
    split
    · exact Low.cons (by decide) low_nil
    · exact low_nil
  have h2 : ∀ x : List UInt8, x.length ≤ 200000 → Low [byt a.desc, x, escL (byt a.value)] := fun x hx => Low.cons t1 (Low.cons hx (Low.cons e2 low_nil))
  refine Low.cons (by decide) (Low.app ?_ (Low.cons (by decide) low_nil))
  unfold bodyC
  split
  · exact Low.cons (by decide) hk
  split
  · exact Low.cons (by decide) hk
  split
  · exact Low.cons (by decide) hk
  split
  · exact h2 _ (by decide)
  split
  · exact h2 _ (by decide)
  split
  · exact h2 _ (by decide)
  split
  · exact h2 _ (by decide)
  split
  · exact Low.cons t1 (Low.cons (by decide) low_nil)
  split
  · exact Low.app (Low.cons t1 (Low.cons (by decide) (Low.cons (low_esc s3) (Low.cons (by decide) low_nil)))) (hm.app (Low.cons (low_esc s4) low_nil))
  · exact Low.cons t1 (hd.app (hr.app (Low.cons (by decide) (Low.cons (by decide) (Low.cons e2 low_nil)))))
theorem low_kids : ∀ {k : FT}, OkF k → Low (kidsC k)
  | .nil, _ => low_nil
  | .cons _ _ _, h => (low_one h.1.2.2 (low_kids h.2.1)).app (low_kids h.2.2)
end Go.Proofs.YtkfmlijlfdaobaaGreatDoor
