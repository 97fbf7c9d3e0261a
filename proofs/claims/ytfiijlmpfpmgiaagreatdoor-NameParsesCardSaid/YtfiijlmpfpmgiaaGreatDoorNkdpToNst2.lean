/-
  The name of keyed's text in alive: plain facts.
-/
import Derived.Test.YtfiijlmpfpmgiaaGreatDoorNprint
import Derived.Test.YtfiijlmpfpmgiaaGreatDoorNmnToOrd
import Derived.Test.YtfiijlmpfpmgiaaGreatDoorShelfToStrs
import Derived.Test.YtfiijlmpfpmgiaaGreatDoorNplToNword
import Derived.Deep.RegionWith
import Derived.Shelf.RegionOpenPlain
import Derived.WalkMore
namespace Go.Proofs.YtfiijlmpfpmgiaaGreatDoor
open Go.RowKit

def sK : ByteArray := ⟨#[67, 78, 61, 65, 100, 97, 32, 32, 66, 44, 111, 117, 61, 120]⟩
def ptsK : List (List Av) := [[⟨⟨#[67, 78]⟩, ⟨#[65, 100, 97, 32, 32, 66]⟩⟩], [⟨⟨#[111, 117]⟩, ⟨#[120]⟩⟩]]
set_option maxRecDepth 100000 in
theorem rGo_K0 : (rGo sK 60 0 ⟨0, ⟨#[]⟩, 0, [], []⟩).map (fun x => (x.1, x.2.pts)) = some (0, ptsK) := by kernel_rfl
theorem rGo_K : ∃ r, rGo sK 60 0 ⟨0, ⟨#[]⟩, 0, [], []⟩ = some (0, r) ∧ r.pts = ptsK := by
  have h := rGo_K0
  match hx : rGo sK 60 0 ⟨0, ⟨#[]⟩, 0, [], []⟩ with
  | none => rw [hx] at h; cases h
  | some (a, r) =>
    rw [hx] at h
    simp only [Option.map_some, Option.some.injEq, Prod.mk.injEq] at h
    obtain ⟨rfl, h2⟩ := h
    exact ⟨r, rfl, h2⟩
set_option maxRecDepth 100000 in
theorem print_K : printP dz1 ptsK = (byt sK, 0) := by decide
/-- the second text of alive, and its name -/
def sA : ByteArray := ⟨#[99, 110, 61, 65, 100, 97, 32, 92, 50, 66, 32, 120, 43, 111, 117, 61, 97, 92, 44, 98, 44, 111, 117, 61]⟩
def tA : ByteArray := ⟨#[99, 110, 61, 65, 100, 97, 32, 92, 43, 32, 120, 43, 111, 117, 61, 97, 92, 44, 98, 44, 111, 117, 61]⟩
def ptsA : List (List Av) := [[⟨⟨#[99, 110]⟩, ⟨#[65, 100, 97, 32, 43, 32, 120]⟩⟩, ⟨⟨#[111, 117]⟩, ⟨#[97, 44, 98]⟩⟩], [⟨⟨#[111, 117]⟩, ⟨#[]⟩⟩]]
set_option maxRecDepth 100000 in
theorem rGo_A0 : (rGo sA 60 0 ⟨0, ⟨#[]⟩, 0, [], []⟩).map (fun x => (x.1, x.2.pts)) = some (0, ptsA) := by kernel_rfl
theorem rGo_A : ∃ r, rGo sA 60 0 ⟨0, ⟨#[]⟩, 0, [], []⟩ = some (0, r) ∧ r.pts = ptsA := by
  have h := rGo_A0
  match hx : rGo sA 60 0 ⟨0, ⟨#[]⟩, 0, [], []⟩ with
  | none => rw [hx] at h; cases h
  | some (a, r) =>
    rw [hx] at h
    simp only [Option.map_some, Option.some.injEq, Prod.mk.injEq] at h
    obtain ⟨rfl, h2⟩ := h
    exact ⟨r, rfl, h2⟩
set_option maxRecDepth 100000 in
theorem print_A : printP dz1 ptsA = (byt tA, 0) := by decide
theorem run_low (s : ByteArray) (hs : s.size ≤ 65536) (h : ∀ b ∈ byt s, b.toNat < 128) : ∀ k, k < s.size → RunAt (s.extract k s.size) := by
  intro k hk
  refine runSize_ascii _ (by rw [ByteArray.size_extract]; omega) (fun b hb => h b ?_)
  rw [byt_extract] at hb
  exact List.mem_of_mem_drop (List.mem_of_mem_take hb)
theorem dec_low (s : ByteArray) (h : ∀ b ∈ byt s, b < 128) : ∀ k, k < s.size → DecAt (s.extract k s.size) (dz1 ((byt s).drop k)) := by
  intro k hk
  have hl : k < (byt s).length := by rw [byt_length]; exact hk
  have e : byt (s.extract k s.size) = (byt s)[k] :: (byt s).drop (k + 1) := by
    rw [byt_extract, List.take_of_length_le (by rw [List.length_drop, byt_length]; omega), List.drop_eq_getElem_cons hl]
  exact dec_ascii _ _ _ e (h _ (List.getElem_mem _))
end Go.Proofs.YtfiijlmpfpmgiaaGreatDoor

/-
  A row of steps, plain: numbers, pairs, steps.
-/
namespace Go.Proofs.YtfiijlmpfpmgiaaGreatDoor

/-- the digits at the beginning, nine at most -/
def ndigsL (l : List UInt8) : List UInt8 := (l.take 9).takeWhile isDig
def cutNumL (l : List UInt8) (sg : UInt8) : Option (Nat × List UInt8) :=
  if ndigsL l = [] ∨ (1 < (ndigsL l).length ∧ l.head? = some 48) ∨ (l.drop (ndigsL l).length).head? ≠ some sg then none
  else some (digV (ndigsL l), l.drop ((ndigsL l).length + 1))
def cutPairL (l : List UInt8) : Option (Nat × List UInt8) := match cutNumL l 61 with
  | none => none
  | some (p, r) => match cutNumL r 58 with
    | none => none
    | some (n, r2) => if r2.length < n then none else some (p, r2.drop n)
/-- what stands behind the part at the beginning, if one stands there -/
def stepL : Nat → Int → List UInt8 → Option (List UInt8)
  | 0, _, _ => none
  | f + 1, last, l => match cutPairL l with
    | none => none
    | some (p, b) => if (p : Int) ≤ last then none else match b with
      | [] => none
      | c :: r => if c = 59 then some r else if c = 43 then stepL f p r else none
def cutL : Nat → List UInt8 → Option (List (List UInt8))
  | 0, _ => none
  | f + 1, l => if l = [] then some [] else match stepL (l.length + 1) (-1) l with
    | none => none
    | some r => (cutL f r).map (l.take (l.length - r.length) :: ·)
example : cutL 99 [50, 61, 49, 58, 120, 59, 49, 61, 49, 58, 97, 59] = some [[50, 61, 49, 58, 120, 59], [49, 61, 49, 58, 97, 59]] := by decide

theorem ndigs_end (l : List UInt8) (k : Nat) (h : (l.take k).all isDig = true) (hk : k ≤ 9) (hl : k ≤ l.length) (he : k = l.length ∨ k = 9 ∨ ∃ b, l[k]? = some b ∧ isDig b = false) : ndigsL l = l.take k := by
  unfold ndigsL
  have e1 : l.take 9 = l.take k ++ (l.take 9).drop k := by
    have := (List.take_append_drop k (l.take 9)).symm
    rwa [List.take_take, Nat.min_eq_left hk] at this
  rw [e1, List.takeWhile_append_of_pos (fun a ha => (List.all_eq_true.1 h) a ha)]
  have e2 : ((l.take 9).drop k).takeWhile isDig = [] := by
    rcases he with he | he | ⟨b, hb, hd⟩
    · rw [List.drop_eq_nil_of_le (by rw [List.length_take]; omega)]; rfl
    · rw [List.drop_eq_nil_of_le (by rw [List.length_take]; omega)]; rfl
    · by_cases h9 : k = 9
      · rw [List.drop_eq_nil_of_le (by rw [List.length_take]; omega)]; rfl
      · have hk2 : k < l.length := (List.getElem?_eq_some_iff.1 hb).1
        have hk3 : k < (l.take 9).length := by rw [List.length_take]; omega
        rw [List.drop_eq_getElem_cons hk3, List.getElem_take]
        have : l[k] = b := (List.getElem?_eq_some_iff.1 hb).2
        rw [this, List.takeWhile_cons_of_neg (by rw [hd]; decide)]
  rw [e2, List.append_nil]
theorem cutNum_short {l r : List UInt8} {sg : UInt8} {n : Nat} (h : cutNumL l sg = some (n, r)) : r.length < l.length := by
  unfold cutNumL at h
  split at h
  · cases h
  · rename_i hc
    have hd : (l.drop (ndigsL l).length).head? = some sg := by
      apply Classical.byContradiction; intro q; exact hc (Or.inr (Or.inr q))
    obtain ⟨_, rfl⟩ := Prod.mk.inj (Option.some.inj h)
    have : l.drop (ndigsL l).length ≠ [] := fun e => by rw [e] at hd; cases hd
    have hl : (ndigsL l).length < l.length := by
      apply Classical.byContradiction; intro q; exact this (List.drop_eq_nil_of_le (by omega))
    rw [List.length_drop]; omega
theorem cutPair_short {l r : List UInt8} {n : Nat} (h : cutPairL l = some (n, r)) : r.length < l.length := by
  unfold cutPairL at h
  split at h
  · cases h
  · rename_i p r1 h1
    split at h
    · cases h
    · rename_i m r2 h2
      split at h
      · cases h
      · obtain ⟨_, rfl⟩ := Prod.mk.inj (Option.some.inj h)
        have a := cutNum_short h1
        have b := cutNum_short h2
        rw [List.length_drop]; omega
end Go.Proofs.YtfiijlmpfpmgiaaGreatDoor

/-
  A row of steps, plain: how much is looked at does not matter; what is cut off stands behind.
-/
namespace Go.Proofs.YtfiijlmpfpmgiaaGreatDoor

theorem stepL_succ (f : Nat) (last : Int) (l : List UInt8) : stepL (f + 1) last l = match cutPairL l with
    | none => none
    | some (p, b) => if (p : Int) ≤ last then none else match b with
      | [] => none
      | c :: r => if c = 59 then some r else if c = 43 then stepL f p r else none := rfl
theorem cutL_succ (f : Nat) (l : List UInt8) : cutL (f + 1) l = if l = [] then some [] else match stepL (l.length + 1) (-1) l with
    | none => none
    | some r => (cutL f r).map (l.take (l.length - r.length) :: ·) := rfl
theorem stepL_fuel : ∀ (f g : Nat) (last : Int) (l : List UInt8), l.length < f → l.length < g → stepL f last l = stepL g last l
  | 0, _, _, _, h, _ => by omega
  | _ + 1, 0, _, _, _, h => by omega
  | f + 1, g + 1, last, l, hf, hg => by
    rw [stepL_succ, stepL_succ]
    cases h : cutPairL l with
    | none => rfl
    | some x =>
      obtain ⟨p, b⟩ := x
      have hs := cutPair_short h
      dsimp only
      cases b with
      | nil => rfl
      | cons c r =>
        dsimp only
        rw [List.length_cons] at hs
        rw [stepL_fuel f g p r (by omega) (by omega)]
theorem cutNum_suf {l r : List UInt8} {sg : UInt8} {n : Nat} (h : cutNumL l sg = some (n, r)) : r <:+ l := by
  unfold cutNumL at h
  split at h
  · cases h
  · obtain ⟨_, rfl⟩ := Prod.mk.inj (Option.some.inj h)
    exact List.drop_suffix _ _
theorem cutPair_suf {l r : List UInt8} {n : Nat} (h : cutPairL l = some (n, r)) : r <:+ l := by
  unfold cutPairL at h
  split at h
  · cases h
  · rename_i p r1 h1
    split at h
    · cases h
    · rename_i m r2 h2
      split at h
      · cases h
      · obtain ⟨_, rfl⟩ := Prod.mk.inj (Option.some.inj h)
        exact ((List.drop_suffix _ _).trans (cutNum_suf h2)).trans (cutNum_suf h1)
theorem stepL_suf : ∀ (f : Nat) (last : Int) (l r : List UInt8), stepL f last l = some r → r <:+ l ∧ r.length < l.length
  | 0, _, _, _, h => by cases h
  | f + 1, last, l, r, h => by
    rw [stepL_succ] at h
    cases hc : cutPairL l with
    | none => rw [hc] at h; cases h
    | some x =>
      obtain ⟨p, b⟩ := x
      rw [hc] at h
      have hs := cutPair_short hc
      have hu := cutPair_suf hc
      dsimp only at h
      split at h
      · cases h
      · cases b with
        | nil => cases h
        | cons c q =>
          dsimp only at h
          rw [List.length_cons] at hs
          split at h
          · obtain rfl := Option.some.inj h
            exact ⟨(List.suffix_cons c q).trans hu, by omega⟩
          · split at h
            · obtain ⟨h1, h2⟩ := stepL_suf f p q r h
              exact ⟨(h1.trans (List.suffix_cons c q)).trans hu, by omega⟩
            · cases h
theorem cutL_fuel : ∀ (f g : Nat) (l : List UInt8), l.length < f → l.length < g → cutL f l = cutL g l
  | 0, _, _, h, _ => by omega
  | _ + 1, 0, _, _, h => by omega
  | f + 1, g + 1, l, hf, hg => by
    rw [cutL_succ, cutL_succ]
    by_cases hl : l = []
    · rw [if_pos hl, if_pos hl]
    · rw [if_neg hl, if_neg hl]
      cases h : stepL (l.length + 1) (-1) l with
      | none => rfl
      | some r =>
        have := (stepL_suf _ _ _ _ h).2
        dsimp only
        rw [cutL_fuel f g r (by omega) (by omega)]
/-- the parts of a row of steps, if it is one -/
def stepsL (l : List UInt8) : Option (List (List UInt8)) := cutL (l.length + 1) l
theorem stepsL_nil : stepsL [] = some [] := rfl
theorem stepsL_step {l : List UInt8} (hl : l ≠ []) : stepsL l = match stepL (l.length + 1) (-1) l with
    | none => none
    | some r => (stepsL r).map (l.take (l.length - r.length) :: ·) := by
  unfold stepsL
  rw [cutL_succ, if_neg hl]
  cases h : stepL (l.length + 1) (-1) l with
  | none => rfl
  | some r =>
    have := (stepL_suf _ _ _ _ h).2
    dsimp only
    rw [cutL_fuel l.length (r.length + 1) r (by omega) (by omega)]
theorem stepsL_join : ∀ (n : Nat) (l : List UInt8) (q : List (List UInt8)), l.length ≤ n → stepsL l = some q → q.flatten = l ∧ (q = [] ↔ l = [])
  | 0, l, q, hn, h => by
    obtain rfl : l = [] := List.eq_nil_of_length_eq_zero (by omega)
    rw [stepsL_nil] at h
    obtain rfl := Option.some.inj h
    exact ⟨rfl, by simp⟩
  | n + 1, l, q, hn, h => by
    by_cases hl : l = []
    · subst hl
      rw [stepsL_nil] at h
      obtain rfl := Option.some.inj h
      exact ⟨rfl, by simp⟩
    · rw [stepsL_step hl] at h
      cases hs : stepL (l.length + 1) (-1) l with
      | none => rw [hs] at h; cases h
      | some r =>
        rw [hs] at h
        dsimp only at h
        obtain ⟨p, hp, rfl⟩ := Option.map_eq_some_iff.1 h
        obtain ⟨hu, hr⟩ := stepL_suf _ _ _ _ hs
        obtain ⟨h1, _⟩ := stepsL_join n r p (by omega) hp
        obtain ⟨t, ht⟩ := hu
        refine ⟨?_, by simp [hl]⟩
        rw [List.flatten_cons, h1]
        have e : l.length - r.length = t.length := by rw [← ht, List.length_append]; omega
        rw [e, ← ht, List.take_left]
end Go.Proofs.YtfiijlmpfpmgiaaGreatDoor

/-
  A number at the beginning of a row of steps.
-/
namespace Go.Proofs.YtfiijlmpfpmgiaaGreatDoor
open Go.RowKit

def cnT (o : Option (Nat × List UInt8)) : Value := match o with
  | some (n, r) => .tuple #[.int .i64 (n : Int), .string (str r), .bool true]
  | none => .tuple #[.int .i64 0, .string ⟨#[]⟩, .bool false]
theorem cn_none {s : ByteArray} {c : UInt8} {k : Nat} (hd : ndigsL (byt s) = (byt s).take k) (hk : k ≤ s.size) (h : k = 0 ∨ (1 < k ∧ (byt s).head? = some 48) ∨ ((byt s).drop k).head? ≠ some c) : cutNumL (byt s) c = none := by
  have hl : ((byt s).take k).length = k := by rw [List.length_take, byt_length]; omega
  unfold cutNumL
  rw [hd, hl, if_pos]
  rcases h with rfl | h | h
  · exact .inl (by simp)
  · exact .inr (.inl h)
  · exact .inr (.inr h)
theorem cn_some {s : ByteArray} {c : UInt8} {k : Nat} (hd : ndigsL (byt s) = (byt s).take k) (hk : k ≤ s.size) (h1 : k ≠ 0) (h2 : ¬ (1 < k ∧ (byt s).head? = some 48)) (h3 : ((byt s).drop k).head? = some c) : cutNumL (byt s) c = some (digV ((byt s).take k), (byt s).drop (k + 1)) := by
  have hl : ((byt s).take k).length = k := by rw [List.length_take, byt_length]; omega
  unfold cutNumL
  rw [hd, hl, if_neg]
  rintro (h | h | h)
  · rw [h] at hl; exact h1 (by simpa using hl.symm)
  · exact h2 h
  · exact h h3
set_option maxRecDepth 100000 in
set_option maxHeartbeats 4000000 in
theorem cutNumber_any (w : World) (s : ByteArray) (hs : s.size ≤ 140737488355328) (c : UInt8) :
    Calls Tryz.prog 109 #[.string s, .int .u8 c.toNat] w fun e w' => e = .returned (cnT (cutNumL (byt s) c)) ∧ Ext w w' := by
  have hD := fun b w => nDigit_byte b w
  have hmix : Tryz.prog.follows Departure.mixedOrders = true := by kernel_rfl
  go_enter Tryz.func109, Tryz.ntmps109
  go_wp2
  go_loopw [4, 7] (fun v i wr => ∃ k : Nat, k ≤ 9 ∧ k ≤ s.size ∧ i = .int .i64 k ∧ v = .int .i64 (digV ((byt s).take k) : Int) ∧ Hid (((byt s).take k).all isDig = true) ∧ wr = w) (fun _ i _ => 9 - (intOf i).toNat)
  case atStart => exact ⟨0, by omega, by omega, rfl, rfl, rfl, rfl⟩
  case round =>
    obtain ⟨k, hk9, hks, rfl, rfl, hall, rfl⟩ := hrel
    have hlt := digV_lt _ hall.out
    have hlk : ((byt s).take k).length = k := by rw [List.length_take, byt_length]; omega
    rw [hlk] at hlt
    have hp : 10 ^ k ≤ 10 ^ 9 := Nat.pow_le_pow_right (by decide) hk9
    have hb : digV ((byt s).take k) < 1000000000 := Nat.lt_of_lt_of_le hlt hp
    clear hlt hp
    by_cases h9 : k < 9 ∧ ∃ h : k < s.size, isDig s[k] = true
    · obtain ⟨h1, h2, h3⟩ := h9
      have h1i : (k : Int) < 9 := by omega
      have h2i : (k : Int) < (s.size : Int) := by omega
      have hdi := hD s[k]
      rw [h3] at hdi
      have hn : 48 ≤ s[k].toNat ∧ s[k].toNat ≤ 57 := by unfold isDig at h3; simp at h3; omega
      obtain ⟨m, hm⟩ : ∃ m : Nat, Hid (m = digV ((byt s).take (k + 1))) := ⟨_, rfl⟩
      have hsn : digV ((byt s).take (k + 1)) = 10 * digV ((byt s).take k) + (s[k].toNat - 48) := by rw [take_snoc s k h2, digV_snoc]
      have hall2 : Hid (((byt s).take (k + 1)).all isDig = true) := by show _ = _; rw [take_snoc s k h2, List.all_append, hall.out, List.all_cons, h3]; rfl
      generalize digV ((byt s).take k) = d at *
      have hm2 : (d : Int) * 10 + ((s[k].toNat : Int) - 48) = (m : Int) := by have := hm.out; omega
      clear hall hsn hlk
      go_wp2_with (go_at_call 72; refine (hdi _).mono ?_; rintro _ _ ⟨rfl, rfl⟩)
      exact ⟨⟨k + 1, by omega, by omega, by go_num, by rw [hm.out], hall2, trivial⟩, by simp [intOf]; omega⟩
    · have hend : k = s.size ∨ (k < s.size ∧ k = 9) ∨ (∃ h : k < s.size, k < 9 ∧ isDig s[k] = false) := by
        rcases Nat.lt_or_ge k s.size with q | q
        · rcases Nat.lt_or_ge k 9 with q2 | q2
          · right; right
            refine ⟨q, q2, ?_⟩
            cases e : isDig s[k] with
            | false => rfl
            | true => exact absurd ⟨q2, q, e⟩ h9
          · exact .inr (.inl ⟨q, by omega⟩)
        · exact .inl (by omega)
      have hds : ndigsL (byt s) = (byt s).take k := by
        refine ndigs_end _ k hall.out hk9 (by rw [byt_length]; exact hks) ?_
        rcases hend with q | ⟨_, q⟩ | ⟨q, _, e⟩
        · exact .inl (by rw [byt_length]; exact q)
        · exact .inr (.inl q)
        · exact .inr (.inr ⟨s[k], byt_get s k q, e⟩)
      have hNo := fun h => cn_none (c := c) hds hks h
      have hYes := fun h1 h2 h3 => cn_some (c := c) hds hks h1 h2 h3
      clear h9 hall hds
      by_cases hk0 : k = 0
      · subst hk0
        have hN : Hid (cutNumL (byt s) c = none) := hNo (.inl rfl)
        clear hNo hYes
        rcases hend with hx | ⟨hx, hx9⟩ | ⟨hx, hx9, hxd⟩
        · have hxl : (s.size : Int) = 0 := by omega
          clear hx
          go_wp2
          go_ret3
          exact ⟨by rw [hN.out]; rfl, Ext.refl _⟩
        · exfalso; omega
        · have hxl : (0 : Int) < (s.size : Int) := by omega
          have hdi := hD s[0]
          rw [hxd] at hdi
          go_wp2_with (go_at_call 72; refine (hdi _).mono ?_; rintro _ _ ⟨rfl, rfl⟩)
          go_ret3
          exact ⟨by rw [hN.out]; rfl, Ext.refl _⟩
      · have hkb : ((k : Int) == 0) = false := by simp; omega
        have hs0 : 0 < s.size := by omega
        have hh : (byt s).head? = some s[0] := by have := drop_one s 0 hs0; rw [List.drop_zero] at this; rw [this]; rfl
        by_cases hk1 : 1 < k
        · have hki : (1 : Int) < (k : Int) := by omega
          by_cases h48 : s[0] = 48
          · have h48b : ((s[0].toNat : Int) == 48) = true := by rw [h48]; rfl
            rcases hend with hx | ⟨hx, hx9⟩ | ⟨hx, hx9, hxd⟩
            · have hxl : ¬ (k : Int) < (s.size : Int) := by omega
              have hxb : ((k : Int) == (s.size : Int)) = true := by simp; omega
              have hN : Hid (cutNumL (byt s) c = none) := hNo (.inr (.inl ⟨by omega, by rw [hh, h48]⟩))
              clear hNo hYes h48 hh
              clear hx
              go_wp2
              go_ret3
              exact ⟨by rw [hN.out]; rfl, Ext.refl _⟩
            · have hxl : (k : Int) < (s.size : Int) := by omega
              have hxb : ((k : Int) == (s.size : Int)) = false := by simp; omega
              have hx9i : ¬ (k : Int) < 9 := by omega
              have hN : Hid (cutNumL (byt s) c = none) := hNo (.inr (.inl ⟨by omega, by rw [hh, h48]⟩))
              clear hNo hYes h48 hh
              try clear hx9
              go_wp2
              go_ret3
              exact ⟨by rw [hN.out]; rfl, Ext.refl _⟩
            · have hxl : (k : Int) < (s.size : Int) := by omega
              have hxb : ((k : Int) == (s.size : Int)) = false := by simp; omega
              have hx9i : (k : Int) < 9 := by omega
              have hdi := hD s[k]
              rw [hxd] at hdi
              have hN : Hid (cutNumL (byt s) c = none) := hNo (.inr (.inl ⟨by omega, by rw [hh, h48]⟩))
              clear hNo hYes h48 hh
              go_wp2_with (go_at_call 72; refine (hdi _).mono ?_; rintro _ _ ⟨rfl, rfl⟩)
              go_ret3
              exact ⟨by rw [hN.out]; rfl, Ext.refl _⟩
          · have h48b : ((s[0].toNat : Int) == 48) = false := by
              simp only [beq_eq_false_iff_ne, ne_eq]; intro e; exact h48 (UInt8.toNat_inj.1 (show s[0].toNat = 48 by omega))
            rcases hend with hx | ⟨hx, hx9⟩ | ⟨hx, hx9, hxd⟩
            · have hxl : ¬ (k : Int) < (s.size : Int) := by omega
              have hxb : ((k : Int) == (s.size : Int)) = true := by simp; omega
              have hN : Hid (cutNumL (byt s) c = none) := hNo (.inr (.inr (by rw [drop_end s k (by omega)]; simp)))
              clear hNo hYes
              clear hx
              go_wp2
              go_ret3
              exact ⟨by rw [hN.out]; rfl, Ext.refl _⟩
            · have hxl : (k : Int) < (s.size : Int) := by omega
              have hxb : ((k : Int) == (s.size : Int)) = false := by simp; omega
              have hx9i : ¬ (k : Int) < 9 := by omega
              by_cases hsg : s[k] = c
              · have hsi : ((s[k].toNat : Int) != (c.toNat : Int)) = false := by rw [hsg]; simp
                have hY : Hid (cutNumL (byt s) c = some (digV ((byt s).take k), (byt s).drop (k + 1))) := hYes (by omega) (fun h => h48 (by have := h.2; rw [hh] at this; simpa using this)) (by rw [drop_one s k hx, ← hsg]; rfl)
                obtain ⟨q, hqh⟩ : ∃ q, Hid (q = k + 1) := ⟨_, rfl⟩
                have hq : (k : Int) + 1 = (q : Int) := by have := hqh.out; omega
                have hql : (q : Int) ≤ (s.size : Int) := by have := hqh.out; omega
                clear hNo hYes hsg
                try clear hx9
                go_wp2
                go_region_o
                go_wp2
                go_ret3
                exact ⟨by rw [hY.out, ← hqh.out]; exact congrArg (fun z => Ending.returned (.tuple #[.int .i64 (digV ((byt s).take k) : Int), .string z, .bool true])) (by rw [← byt_from, str_byt]), (Ext.refl _).drew⟩
              · have hsi : ((s[k].toNat : Int) != (c.toNat : Int)) = true := by
                  simp only [bne_iff_ne, ne_eq]; intro e; exact hsg (UInt8.toNat_inj.1 (by omega))
                have hN : Hid (cutNumL (byt s) c = none) := hNo (.inr (.inr (by rw [drop_one s k hx]; intro e; exact hsg (by simpa using e))))
                clear hNo hYes
                try clear hx9
                go_wp2
                go_ret3
                exact ⟨by rw [hN.out]; rfl, Ext.refl _⟩
            · have hxl : (k : Int) < (s.size : Int) := by omega
              have hxb : ((k : Int) == (s.size : Int)) = false := by simp; omega
              have hx9i : (k : Int) < 9 := by omega
              have hdi := hD s[k]
              rw [hxd] at hdi
              by_cases hsg : s[k] = c
              · have hsi : ((s[k].toNat : Int) != (c.toNat : Int)) = false := by rw [hsg]; simp
                have hY : Hid (cutNumL (byt s) c = some (digV ((byt s).take k), (byt s).drop (k + 1))) := hYes (by omega) (fun h => h48 (by have := h.2; rw [hh] at this; simpa using this)) (by rw [drop_one s k hx, ← hsg]; rfl)
                obtain ⟨q, hqh⟩ : ∃ q, Hid (q = k + 1) := ⟨_, rfl⟩
                have hq : (k : Int) + 1 = (q : Int) := by have := hqh.out; omega
                have hql : (q : Int) ≤ (s.size : Int) := by have := hqh.out; omega
                clear hNo hYes hsg
                go_wp2_with (go_at_call 72; refine (hdi _).mono ?_; rintro _ _ ⟨rfl, rfl⟩)
                go_region_o
                go_wp2
                go_ret3
                exact ⟨by rw [hY.out, ← hqh.out]; exact congrArg (fun z => Ending.returned (.tuple #[.int .i64 (digV ((byt s).take k) : Int), .string z, .bool true])) (by rw [← byt_from, str_byt]), (Ext.refl _).drew⟩
              · have hsi : ((s[k].toNat : Int) != (c.toNat : Int)) = true := by
                  simp only [bne_iff_ne, ne_eq]; intro e; exact hsg (UInt8.toNat_inj.1 (by omega))
                have hN : Hid (cutNumL (byt s) c = none) := hNo (.inr (.inr (by rw [drop_one s k hx]; intro e; exact hsg (by simpa using e))))
                clear hNo hYes
                go_wp2_with (go_at_call 72; refine (hdi _).mono ?_; rintro _ _ ⟨rfl, rfl⟩)
                go_ret3
                exact ⟨by rw [hN.out]; rfl, Ext.refl _⟩
        · have hki : ¬ (1 : Int) < (k : Int) := by omega
          rcases hend with hx | ⟨hx, hx9⟩ | ⟨hx, hx9, hxd⟩
          · have hxl : ¬ (k : Int) < (s.size : Int) := by omega
            have hxb : ((k : Int) == (s.size : Int)) = true := by simp; omega
            have hN : Hid (cutNumL (byt s) c = none) := hNo (.inr (.inr (by rw [drop_end s k (by omega)]; simp)))
            clear hNo hYes
            clear hx
            go_wp2
            go_ret3
            exact ⟨by rw [hN.out]; rfl, Ext.refl _⟩
          · exfalso; omega
          · have hxl : (k : Int) < (s.size : Int) := by omega
            have hxb : ((k : Int) == (s.size : Int)) = false := by simp; omega
            have hx9i : (k : Int) < 9 := by omega
            have hdi := hD s[k]
            rw [hxd] at hdi
            by_cases hsg : s[k] = c
            · have hsi : ((s[k].toNat : Int) != (c.toNat : Int)) = false := by rw [hsg]; simp
              have hY : Hid (cutNumL (byt s) c = some (digV ((byt s).take k), (byt s).drop (k + 1))) := hYes (by omega) (fun h => absurd h.1 hk1) (by rw [drop_one s k hx, ← hsg]; rfl)
              obtain ⟨q, hqh⟩ : ∃ q, Hid (q = k + 1) := ⟨_, rfl⟩
              have hq : (k : Int) + 1 = (q : Int) := by have := hqh.out; omega
              have hql : (q : Int) ≤ (s.size : Int) := by have := hqh.out; omega
              clear hNo hYes hsg
              go_wp2_with (go_at_call 72; refine (hdi _).mono ?_; rintro _ _ ⟨rfl, rfl⟩)
              go_region_o
              go_wp2
              go_ret3
              exact ⟨by rw [hY.out, ← hqh.out]; exact congrArg (fun z => Ending.returned (.tuple #[.int .i64 (digV ((byt s).take k) : Int), .string z, .bool true])) (by rw [← byt_from, str_byt]), (Ext.refl _).drew⟩
            · have hsi : ((s[k].toNat : Int) != (c.toNat : Int)) = true := by
                simp only [bne_iff_ne, ne_eq]; intro e; exact hsg (UInt8.toNat_inj.1 (by omega))
              have hN : Hid (cutNumL (byt s) c = none) := hNo (.inr (.inr (by rw [drop_one s k hx]; intro e; exact hsg (by simpa using e))))
              clear hNo hYes
              go_wp2_with (go_at_call 72; refine (hdi _).mono ?_; rintro _ _ ⟨rfl, rfl⟩)
              go_ret3
              exact ⟨by rw [hN.out]; rfl, Ext.refl _⟩
end Go.Proofs.YtfiijlmpfpmgiaaGreatDoor

/-
  A pair at the beginning of a row of steps.
-/
namespace Go.Proofs.YtfiijlmpfpmgiaaGreatDoor
open Go.RowKit

set_option maxRecDepth 100000 in
set_option maxHeartbeats 4000000 in
theorem cutPair_any (w : World) (s : ByteArray) (hs : s.size ≤ 140737488355328) :
    Calls Tryz.prog 80 #[.string s] w fun e w' => e = .returned (cnT (cutPairL (byt s))) ∧ Ext w w' := by
  have hmix : Tryz.prog.follows Departure.mixedOrders = true := by kernel_rfl
  have h1 : Calls Tryz.prog 109 #[.string s, .int .u8 61] w fun e w' => e = .returned (cnT (cutNumL (byt s) 61)) ∧ Ext w w' := cutNumber_any w s hs 61
  have hu : cutPairL (byt s) = match cutNumL (byt s) 61 with
    | none => none
    | some (p, r) => match cutNumL r 58 with
      | none => none
      | some (n, r2) => if r2.length < n then none else some (p, r2.drop n) := rfl
  have huh : Hid (cutPairL (byt s) = _) := hu
  clear hu
  cases hc1 : cutNumL (byt s) 61 with
  | none =>
    rw [hc1] at h1 huh
    simp only [cnT] at h1
    have hv : Hid (cutPairL (byt s) = none) := huh.out
    clear huh hc1
    go_enter Tryz.func80, Tryz.ntmps80
    go_wp2_with (go_at_call 109; refine h1.mono ?_; rintro _ w1 ⟨rfl, x1⟩)
    go_ret3
    exact ⟨by rw [hv.out]; rfl, x1⟩
  | some pr =>
    obtain ⟨p, r⟩ := pr
    rw [hc1] at h1 huh
    simp only [cnT] at h1
    have hl : r.length < (byt s).length := cutNum_short hc1
    rw [byt_length] at hl
    have hrs : (str r).size = r.length := by rw [← byt_length, byt_str]
    have h2 : ∀ w1, Calls Tryz.prog 109 #[.string (str r), .int .u8 58] w1 fun e w' => e = .returned (cnT (cutNumL (byt (str r)) 58)) ∧ Ext w1 w' := fun w1 => cutNumber_any w1 (str r) (by omega) 58
    rw [byt_str] at h2
    clear hc1
    cases hc2 : cutNumL r 58 with
    | none =>
      rw [hc2] at h2
      simp only [cnT] at h2
      have hv : Hid (cutPairL (byt s) = none) := by show _ = _; rw [huh.out]; simp only; rw [hc2]
      clear huh hc2
      go_enter Tryz.func80, Tryz.ntmps80
      have mk : True := trivial
      go_wp2_with (first | (go_at_call 109; clear mk; refine h1.mono ?_; rintro _ w1 ⟨rfl, x1⟩) | (go_at_call 109; refine (h2 _).mono ?_; rintro _ w2 ⟨rfl, x2⟩))
      go_ret3
      exact ⟨by rw [hv.out]; rfl, x1.trans x2⟩
    | some nr =>
      obtain ⟨n, r2⟩ := nr
      rw [hc2] at h2
      simp only [cnT] at h2
      have hr2 : (str r2).size = r2.length := by rw [← byt_length, byt_str]
      by_cases hn : r2.length < n
      · have hni : ((str r2).size : Int) < (n : Int) := by omega
        have hv : Hid (cutPairL (byt s) = none) := by show _ = _; rw [huh.out]; simp only; rw [hc2]; simp only; rw [if_pos hn]
        clear huh hc2 hn hrs hr2
        go_enter Tryz.func80, Tryz.ntmps80
        have mk : True := trivial
        go_wp2_with (first | (go_at_call 109; clear mk; refine h1.mono ?_; rintro _ w1 ⟨rfl, x1⟩) | (go_at_call 109; refine (h2 _).mono ?_; rintro _ w2 ⟨rfl, x2⟩))
        go_ret3
        exact ⟨by rw [hv.out]; rfl, x1.trans x2⟩
      · have hni : ¬ ((str r2).size : Int) < (n : Int) := by omega
        have hnj : (n : Int) ≤ ((str r2).size : Int) := by omega
        have hv : Hid (cutPairL (byt s) = some (p, r2.drop n)) := by show _ = _; rw [huh.out]; simp only; rw [hc2]; simp only; rw [if_neg hn]
        clear huh hc2 hn hrs hr2
        go_enter Tryz.func80, Tryz.ntmps80
        have mk : True := trivial
        go_wp2_with (first | (go_at_call 109; clear mk; refine h1.mono ?_; rintro _ w1 ⟨rfl, x1⟩) | (go_at_call 109; refine (h2 _).mono ?_; rintro _ w2 ⟨rfl, x2⟩))
        go_region_o
        go_wp2
        go_ret3
        exact ⟨by rw [hv.out]; exact congrArg (fun z => Ending.returned (.tuple #[.int .i64 (p : Int), .string z, .bool true])) (by rw [← str_byt ((str r2).extract n (str r2).size), byt_from, byt_str]), (x1.trans x2).drew⟩
end Go.Proofs.YtfiijlmpfpmgiaaGreatDoor
