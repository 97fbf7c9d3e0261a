/-
  The document's counts (rosterref13.Index), plainly: a list of pairs, rising by their first number (a gram's number times 2^64 and the number itself), and what count makes of it. No dump is imported here.
-/
import Derived.Test.YtpajkeljgifndaaGreatGq
import Derived.Test.YtpajkeljgifndaaGreatRsToRk
import Derived.Test.YtpajkeljgifndaaGreatIapp
import Derived.Deep.DeepAppendWide
import Derived.Test.YtpajkeljgifndaaGreatIun
import Derived.Deep.QuietTactic
import Derived.Test.YtpajkeljgifndaaGreatIp
namespace Go.Proofs.YtpajkeljgifndaaGreat.G3

/-- rising by the first -/
def Kr (cs : List (Nat × Nat)) : Prop := cs.Pairwise (fun a b => a.1 < b.1)
/-- what stands at a key -/
def val : List (Nat × Nat) → Nat → Nat
  | [], _ => 0
  | c :: cs, k => if c.1 = k then c.2 else val cs k
theorem val_none : ∀ (cs : List (Nat × Nat)) (k : Nat), (∀ c ∈ cs, c.1 ≠ k) → val cs k = 0
  | [], _, _ => rfl
  | c :: cs, k, h => by rw [val, if_neg (h c (by simp))]; exact val_none cs k (fun d hd => h d (by simp [hd]))
theorem val_app : ∀ (a b : List (Nat × Nat)) (k : Nat), (∀ c ∈ a, c.1 ≠ k) → val (a ++ b) k = val b k
  | [], _, _, _ => rfl
  | c :: a, b, k, h => by rw [List.cons_append, val, if_neg (h c (by simp))]; exact val_app a b k (fun d hd => h d (by simp [hd]))
/-- what count makes: each key's count by f; a key that is not there comes in where add is true -/
def upd (f : Nat → Nat) (add : Bool) : List Nat → List (Nat × Nat) → List (Nat × Nat)
  | [], cs => cs
  | k :: ks, [] => (if add then [(k, f 0)] else []) ++ upd f add ks []
  | k :: ks, c :: cs =>
    if c.1 < k then c :: upd f add (k :: ks) cs
    else if c.1 = k then (k, f c.2) :: upd f add ks cs
    else (if add then [(k, f 0)] else []) ++ upd f add ks (c :: cs)
  termination_by ks cs => ks.length + cs.length
theorem upd_low (f : Nat → Nat) (add : Bool) (m : Nat) (ks : List Nat) (cs : List (Nat × Nat)) : (∀ k ∈ ks, m < k) → (∀ c ∈ cs, m < c.1) → ∀ c ∈ upd f add ks cs, m < c.1 := by
  fun_induction upd f add ks cs with
  | case1 cs => exact fun _ h => h
  | case2 k ks ih =>
    intro h1 h2 c hc
    rcases List.mem_append.1 hc with hc | hc
    · cases add <;> simp at hc
      subst hc
      exact h1 k (by simp)
    · exact ih (fun q hq => h1 q (by simp [hq])) h2 c hc
  | case3 k ks c cs hlt ih =>
    intro h1 h2 d hd
    rcases List.mem_cons.1 hd with rfl | hd
    · exact h2 _ (by simp)
    · exact ih h1 (fun q hq => h2 q (by simp [hq])) d hd
  | case4 ks c cs hlt ih =>
    intro h1 h2 d hd
    rcases List.mem_cons.1 hd with rfl | hd
    · exact h1 _ (by simp)
    · exact ih (fun q hq => h1 q (by simp [hq])) (fun q hq => h2 q (by simp [hq])) d hd
  | case5 k ks c cs hlt hne ih =>
    intro h1 h2 d hd
    rcases List.mem_append.1 hd with hd | hd
    · cases add <;> simp at hd
      subst hd
      exact h1 k (by simp)
    · exact ih (fun q hq => h1 q (by simp [hq])) h2 d hd
theorem upd_kr (f : Nat → Nat) (add : Bool) (ks : List Nat) (cs : List (Nat × Nat)) : ks.Pairwise (· < ·) → Kr cs → Kr (upd f add ks cs) := by
  fun_induction upd f add ks cs with
  | case1 cs => exact fun _ h => h
  | case2 k ks ih =>
    intro h1 h2
    obtain ⟨h3, h4⟩ := List.pairwise_cons.1 h1
    cases add with
    | true => exact List.pairwise_cons.2 ⟨upd_low f true k ks [] h3 (by simp), ih h4 h2⟩
    | false => exact ih h4 h2
  | case3 k ks c cs hlt ih =>
    intro h1 h2
    obtain ⟨h3, h4⟩ := List.pairwise_cons.1 h1
    obtain ⟨h5, h6⟩ := List.pairwise_cons.1 h2
    refine List.pairwise_cons.2 ⟨upd_low f add c.1 (k :: ks) cs ?_ h5, ih h1 h6⟩
    intro q hq
    rcases List.mem_cons.1 hq with rfl | hq
    · exact hlt
    · exact Nat.lt_trans hlt (h3 q hq)
  | case4 ks c cs hlt ih =>
    intro h1 h2
    obtain ⟨h3, h4⟩ := List.pairwise_cons.1 h1
    obtain ⟨h5, h6⟩ := List.pairwise_cons.1 h2
    exact List.pairwise_cons.2 ⟨upd_low f add c.1 ks cs h3 h5, ih h4 h6⟩
  | case5 k ks c cs hlt hne ih =>
    intro h1 h2
    obtain ⟨h3, h4⟩ := List.pairwise_cons.1 h1
    obtain ⟨h5, h6⟩ := List.pairwise_cons.1 h2
    cases add with
    | true =>
      refine List.pairwise_cons.2 ⟨upd_low f true k ks (c :: cs) h3 ?_, ih h4 h2⟩
      intro q hq
      rcases List.mem_cons.1 hq with rfl | hq
      · omega
      · have := h5 q hq; omega
    | false => exact ih h4 h2
theorem upd_val (f : Nat → Nat) (add : Bool) (hf : add = true ∨ f 0 = 0) (x : Nat) (ks : List Nat) (cs : List (Nat × Nat)) : ks.Pairwise (· < ·) → Kr cs → val (upd f add ks cs) x = if x ∈ ks then f (val cs x) else val cs x := by
  fun_induction upd f add ks cs with
  | case1 cs => intro _ _; simp
  | case2 k ks ih =>
    intro h1 h2
    obtain ⟨h3, h4⟩ := List.pairwise_cons.1 h1
    have h9 := ih h4 h2
    by_cases hx : x = k
    · subst hx
      rw [if_pos (show x ∈ x :: ks by simp)]
      cases add with
      | true => exact (if_pos rfl : val ((x, f 0) :: upd f true ks []) x = f 0)
      | false =>
        have h0 : f 0 = 0 := by simpa using hf
        refine Eq.trans (h9.trans (if_neg (fun h => absurd (h3 x h) (Nat.lt_irrefl _)))) ?_
        exact h0.symm
    · have e : (x ∈ k :: ks) = (x ∈ ks) := by simp [hx]
      simp only [e]
      rw [← h9]
      refine val_app _ _ _ (fun c hc => ?_)
      cases add <;> simp at hc
      subst hc
      exact fun h => hx h.symm
  | case3 k ks c cs hlt ih =>
    intro h1 h2
    obtain ⟨h3, h4⟩ := List.pairwise_cons.1 h1
    obtain ⟨h5, h6⟩ := List.pairwise_cons.1 h2
    rw [val, val, ih h1 h6]
    by_cases hx : c.1 = x
    · rw [if_pos hx, if_pos hx, if_neg]
      intro h
      rcases List.mem_cons.1 h with h | h
      · omega
      · have := h3 x h; omega
    · rw [if_neg hx, if_neg hx]
  | case4 ks c cs hlt ih =>
    intro h1 h2
    obtain ⟨h3, h4⟩ := List.pairwise_cons.1 h1
    obtain ⟨h5, h6⟩ := List.pairwise_cons.1 h2
    rw [val, val, ih h4 h6]
    by_cases hx : c.1 = x
    · simp [hx]
    · have e : (x ∈ c.1 :: ks) = (x ∈ ks) := by simp; intro h; exact absurd h.symm hx
      simp only [e, if_neg hx]
  | case5 k ks c cs hlt hne ih =>
    intro h1 h2
    obtain ⟨h3, h4⟩ := List.pairwise_cons.1 h1
    obtain ⟨h5, h6⟩ := List.pairwise_cons.1 h2
    have h9 := ih h4 h2
    by_cases hx : x = k
    · subst hx
      have hv : val (c :: cs) x = 0 := val_none _ _ (fun d hd => by
        rcases List.mem_cons.1 hd with rfl | hd
        · exact hne
        · have := h5 d hd; omega)
      rw [if_pos (show x ∈ x :: ks by simp), hv]
      cases add with
      | true => exact (if_pos rfl : val ((x, f 0) :: upd f true ks (c :: cs)) x = f 0)
      | false =>
        have h0 : f 0 = 0 := by simpa using hf
        refine Eq.trans (h9.trans (if_neg (fun h => absurd (h3 x h) (Nat.lt_irrefl _)))) ?_
        rw [hv]
        exact h0.symm
    · have e : (x ∈ k :: ks) = (x ∈ ks) := by simp [hx]
      simp only [e]
      rw [← h9]
      refine val_app _ _ _ (fun d hd => ?_)
      cases add <;> simp at hd
      subst hd
      exact fun h => hx h.symm
theorem val_mem : ∀ {cs : List (Nat × Nat)} {k n : Nat}, Kr cs → (k, n) ∈ cs → val cs k = n
  | [], _, _, _, h => by simp at h
  | c :: cs, k, n, hk, h => by
    obtain ⟨h5, h6⟩ := List.pairwise_cons.1 hk
    rcases List.mem_cons.1 h with h | h
    · subst h; exact if_pos rfl
    · have h7 : c.1 < k := h5 _ h
      rw [val, if_neg (by omega)]
      exact val_mem h6 h
theorem val_in : ∀ {cs : List (Nat × Nat)} {k : Nat}, 0 < val cs k → (k, val cs k) ∈ cs
  | [], _, h => by simp [val] at h
  | c :: cs, k, h => by
    rw [val] at h ⊢
    by_cases hc : c.1 = k
    · rw [if_pos hc, ← hc]; simp
    · rw [if_neg hc] at h ⊢
      exact List.mem_cons_of_mem _ (val_in h)
/-- a gram and a number as one key -/
def key (g id : Nat) : Nat := g * 18446744073709551616 + id
theorem key_div (g id : Nat) (h : id < 18446744073709551616) : key g id / 18446744073709551616 = g ∧ key g id % 18446744073709551616 = id := by unfold key; omega
/-- who has a gram -/
def withL (cs : List (Nat × Nat)) (g : Nat) : List Nat := (cs.filter (fun c => decide (c.1 / 18446744073709551616 = g ∧ 0 < c.2))).map (fun c => c.1 % 18446744073709551616)
theorem withL_mem {cs : List (Nat × Nat)} (hk : Kr cs) (g id : Nat) (hid : id < 18446744073709551616) : id ∈ withL cs g ↔ 0 < val cs (key g id) := by
  unfold withL
  rw [List.mem_map]
  constructor
  · rintro ⟨c, hc, rfl⟩
    obtain ⟨h1, h2⟩ := List.mem_filter.1 hc
    obtain ⟨h3, h4⟩ := of_decide_eq_true h2
    have e : key g (c.1 % 18446744073709551616) = c.1 := by unfold key; omega
    rw [e, val_mem hk (show (c.1, c.2) ∈ cs from h1)]
    exact h4
  · intro h
    have h1 := val_in h
    obtain ⟨h2, h3⟩ := key_div g id hid
    exact ⟨_, List.mem_filter.2 ⟨h1, decide_eq_true ⟨h2, h⟩⟩, h3⟩
theorem withL_rises {cs : List (Nat × Nat)} (hk : Kr cs) (g : Nat) : (withL cs g).Pairwise (· < ·) := by
  unfold withL
  rw [List.pairwise_map]
  refine List.Pairwise.imp_of_mem ?_ (List.Pairwise.filter _ hk)
  intro a b ha hb hab
  have h1 := (of_decide_eq_true (List.mem_filter.1 ha).2).1
  have h2 := (of_decide_eq_true (List.mem_filter.1 hb).2).1
  omega
end Go.Proofs.YtpajkeljgifndaaGreat.G3

/-
  Rows of the document's counts, each of three cells (a number, a gram, how often), and one more behind them.
-/
namespace Go.Proofs.YtpajkeljgifndaaGreat
open Go.RowKit Go.Maps Go.Shelf Go.Lib

def encC (c : Nat × Nat) : List Value := [.int .u64 ((c.1 % 18446744073709551616 : Nat) : Int), .int .u32 ((c.1 / 18446744073709551616 : Nat) : Int), .int .i64 (c.2 : Int)]
def flatC (L : List (Nat × Nat)) : List Value := L.flatMap encC
theorem flatC_cons (p : Nat × Nat) (t : List (Nat × Nat)) : flatC (p :: t) = .int .u64 ((p.1 % 18446744073709551616 : Nat) : Int) :: .int .u32 ((p.1 / 18446744073709551616 : Nat) : Int) :: .int .i64 (p.2 : Int) :: flatC t := by simp [flatC, encC]
theorem flatC_len (L : List (Nat × Nat)) : (flatC L).length = L.length * 3 := by
  induction L with
  | nil => rfl
  | cons p t ih => rw [flatC_cons]; simp only [List.length_cons, ih]; omega
theorem flatC_app (L M : List (Nat × Nat)) : flatC (L ++ M) = flatC L ++ flatC M := by simp [flatC]
theorem flatC_at (L : List (Nat × Nat)) : ∀ j (h : j < L.length), (flatC L)[j * 3]? = some (.int .u64 ((L[j].1 % 18446744073709551616 : Nat) : Int)) ∧ (flatC L)[j * 3 + 1]? = some (.int .u32 ((L[j].1 / 18446744073709551616 : Nat) : Int)) ∧ (flatC L)[j * 3 + 2]? = some (.int .i64 (L[j].2 : Int)) := by
  induction L with
  | nil => intro j h; simp at h
  | cons p t ih =>
    intro j h
    cases j with
    | zero => rw [flatC_cons]; exact ⟨rfl, rfl, rfl⟩
    | succ j =>
      have := ih j (by simpa using h)
      rw [flatC_cons, show (j + 1) * 3 = j * 3 + 1 + 1 + 1 by omega]
      simpa using this
theorem flatC_one (L : List (Nat × Nat)) : ∀ u ∈ flatC L, u.oneCell' = true := by
  intro u hu
  obtain ⟨p, _, hp⟩ := List.mem_flatMap.1 hu
  simp only [encC, List.mem_cons, List.not_mem_nil, or_false] at hp
  rcases hp with rfl | rfl | rfl <;> rfl
/-- a slice of counts -/
def CSl (w : World) (v : Value) (L : List (Nat × Nat)) : Prop :=
  ∃ a cap, v = .slice a L.length cap ∧ L.length ≤ cap ∧ cap ≤ maxLen ∧ ∀ j (h : j < L.length), ∃ g o, a = some ⟨g, o, none⟩ ∧ w.cell? ⟨g, o + j * 3, none⟩ = some (.int .u64 ((L[j].1 % 18446744073709551616 : Nat) : Int)) ∧ w.cell? ⟨g, o + j * 3 + 1, none⟩ = some (.int .u32 ((L[j].1 / 18446744073709551616 : Nat) : Int)) ∧ w.cell? ⟨g, o + j * 3 + 2, none⟩ = some (.int .i64 (L[j].2 : Int))
theorem CSl.ext {w w' : World} {v : Value} {L : List (Nat × Nat)} (h : CSl w v L) (x : Ext w w') : CSl w' v L := by
  obtain ⟨a, cap, rfl, h1, h2, h3⟩ := h
  refine ⟨a, cap, rfl, h1, h2, fun j hj => ?_⟩
  obtain ⟨g, o, e, c1, c2, c3⟩ := h3 j hj
  exact ⟨g, o, e, x.cell c1, x.cell c2, x.cell c3⟩
theorem CSl.only {S B : Nat → Prop} {w w' : World} {v : Value} {L : List (Nat × Nat)} (h : CSl w v L) (hi : In B v) (x : Only S w w') (hd : ∀ k, B k → ¬ S k) : CSl w' v L := by
  obtain ⟨a, cap, rfl, h1, h2, h3⟩ := h
  refine ⟨a, cap, rfl, h1, h2, fun j hj => ?_⟩
  obtain ⟨g, o, rfl, c1, c2, c3⟩ := h3 j hj
  have hb : ¬ S g := hd g (hi ⟨g, o, none⟩ _ _ rfl (by omega))
  exact ⟨g, o, rfl, x.cell c1 hb, x.cell c2 hb, x.cell c3 hb⟩
theorem CSl.len {w : World} {a : Option Addr} {n cap : Nat} {L : List (Nat × Nat)} (h : CSl w (.slice a n cap) L) : n = L.length ∧ n ≤ cap ∧ cap ≤ maxLen := by
  obtain ⟨a', cap', e, h1, h2, _⟩ := h
  simp only [Value.slice.injEq] at e
  obtain ⟨_, rfl, rfl⟩ := e
  exact ⟨rfl, h1, h2⟩
theorem CSl.at {w : World} {a : Option Addr} {n cap : Nat} {L : List (Nat × Nat)} (h : CSl w (.slice a n cap) L) (j : Nat) (hj : j < L.length) : ∃ g o, a = some ⟨g, o, none⟩ ∧ w.cell? ⟨g, o + j * 3, none⟩ = some (.int .u64 ((L[j].1 % 18446744073709551616 : Nat) : Int)) ∧ w.cell? ⟨g, o + j * 3 + 1, none⟩ = some (.int .u32 ((L[j].1 / 18446744073709551616 : Nat) : Int)) ∧ w.cell? ⟨g, o + j * 3 + 2, none⟩ = some (.int .i64 (L[j].2 : Int)) := by
  obtain ⟨a', cap', e, h1, h2, h3⟩ := h
  simp only [Value.slice.injEq] at e
  obtain ⟨rfl, _, rfl⟩ := e
  exact h3 j hj
theorem CSl.shape {w : World} {v : Value} {L : List (Nat × Nat)} (h : CSl w v L) : ∃ a n cap, v = .slice a n cap ∧ Hid (n = L.length) := by
  obtain ⟨a, cap, e, _⟩ := h
  exact ⟨a, _, cap, e, rfl⟩
/-- what stands from the k-th on -/
theorem CSl.drop {w : World} {a : Option Addr} {n cap : Nat} {L : List (Nat × Nat)} (h : CSl w (.slice a n cap) L) (k : Nat) (hk : k ≤ n) : CSl w (sliced a k n cap 3) (L.drop k) := by
  obtain ⟨hn, hnc, hcm⟩ := h.len
  have hl : (L.drop k).length = n - k := by simp; omega
  refine ⟨if cap = k then a else a.map (·.add (k * 3)), cap - k, by simp [sliced, hl], by omega, by omega, fun j hj => ?_⟩
  rw [hl] at hj
  obtain ⟨g, o, rfl, c1, c2, c3⟩ := h.at (k + j) (by omega)
  refine ⟨g, o + k * 3, by rw [if_neg (by omega)]; simp [Addr.add], ?_⟩
  simp only [List.getElem_drop]
  rw [show o + k * 3 + j * 3 = o + (k + j) * 3 by omega]
  exact ⟨c1, c2, c3⟩
/-- a row of counts -/
def CRow (w : World) (S : Nat → Prop) (v : Value) (L : List (Nat × Nat)) : Prop := Row w S 40 3 v L.length (flatC L)
theorem CRow.ext {w w' : World} {S : Nat → Prop} {v : Value} {L : List (Nat × Nat)} (h : CRow w S v L) (k : Ext w w') : CRow w' S v L := Row.ext h k
theorem CRow.sl {w : World} {S : Nat → Prop} {v : Value} {L : List (Nat × Nat)} (h : CRow w S v L) : CSl w v L := by
  have hc := fun g hg => World.ownsRow.cells h.1 (g := g) hg
  rcases h.1.2 with ⟨rfl, hl⟩ | ⟨g, cap, cur, rfl, _, _, h1, h2, _⟩
  · obtain rfl : L = [] := List.eq_nil_of_length_eq_zero hl
    exact ⟨none, 0, rfl, Nat.le_refl _, by decide, fun j hj => by simp at hj⟩
  · refine ⟨_, _, rfl, h1, h2, fun j hj => ⟨g, 0, rfl, ?_, ?_, ?_⟩⟩
    · have := hc g rfl (j * 3) _ (flatC_at L j hj).1
      rwa [Addr.add_lit] at this
    · have := hc g rfl (j * 3 + 1) _ (flatC_at L j hj).2.1
      rw [Addr.add_lit] at this
      rw [Nat.add_assoc]
      exact this
    · have := hc g rfl (j * 3 + 2) _ (flatC_at L j hj).2.2
      rw [Addr.add_lit] at this
      rw [Nat.add_assoc]
      exact this
theorem crow_nil (w : World) (S : Nat → Prop) : CRow w S (.slice none 0 0) [] := row_nil _ _ _ _
theorem CRow.inB {w : World} {S : Nat → Prop} {v : Value} {L : List (Nat × Nat)} (h : CRow w S v L) : In S v := by
  rintro a n c rfl hpos
  rcases h.1.2 with ⟨e, _⟩ | ⟨g, cap, cur, e, _⟩
  · cases e
  · cases e
    exact h.2 g rfl
theorem infoC : (Tryz.prog.info? 40).map (fun i => (i.zero, i.size, i.bytes)) = some (some (.agg #[.int .u64 0, .int .u32 0, .int .i64 0]), 3, 24) := by kernel_rfl
/-- the source of an append -/
theorem srcC {w : World} {v : Value} {M : List (Nat × Nat)} (h : CSl w v M) : Src Tryz.prog 3 35 v M.length (flatC M) w := by
  obtain ⟨a, cap, rfl, h1, h2, h3⟩ := h
  match M, h1, h3 with
  | [], _, _ =>
    match a with
    | none => exact Src.ofNil w Tryz.underlying35 cap
    | some ad => exact Src.ofSlice w Tryz.underlying35 ad 0 cap [] (by simp) (fun j u hu => by simp at hu) (fun u hu => by simp at hu)
  | p :: M, h1, h3 =>
    obtain ⟨g, o, rfl, _⟩ := h3 0 (by simp)
    refine Src.ofSlice w Tryz.underlying35 ⟨g, o, none⟩ _ cap (flatC (p :: M)) (flatC_len _) (fun j u hu => ?_) (flatC_one _)
    rw [Addr.add_lit]
    have hj : j < (flatC (p :: M)).length := by
      rcases Nat.lt_or_ge j (flatC (p :: M)).length with h | h
      · exact h
      · rw [List.getElem?_eq_none h] at hu; cases hu
    rw [flatC_len] at hj
    have hk : j / 3 < (p :: M).length := by omega
    obtain ⟨g', o', e, k1, k2, k3⟩ := h3 (j / 3) hk
    cases e
    obtain ⟨f1, f2, f3⟩ := flatC_at (p :: M) (j / 3) hk
    have hm : j % 3 = 0 ∨ j % 3 = 1 ∨ j % 3 = 2 := by omega
    rcases hm with h0 | h0 | h0
    · rw [show j / 3 * 3 = j by omega] at f1 k1
      rw [f1] at hu
      cases hu
      exact k1
    · rw [show j / 3 * 3 + 1 = j by omega] at f2
      rw [f2] at hu
      cases hu
      rw [show o + j = o + j / 3 * 3 + 1 by omega]
      exact k2
    · rw [show j / 3 * 3 + 2 = j by omega] at f3
      rw [f3] at hu
      cases hu
      rw [show o + j = o + j / 3 * 3 + 2 by omega]
      exact k3
/-- counts put behind a row -/
theorem capp {W : World} {S : Nat → Prop} {u : Value} {L : List (Nat × Nat)} (h : CRow W S u L) (ty : TypeId) {x : Value} {M : List (Nat × Nat)} (hx : CSl W x M) (hl : L.length + M.length ≤ 5000000000000) :
    ∃ a cap W', (Builtin.append_ #[35, 35] ty #[u, x]).run Tryz.prog W = .ok (.slice a (L.length + M.length) cap) W' ∧ CRow W' (Up (own u) W.heap.size) (.slice a (L.length + M.length) cap) (L ++ M) ∧ Only (own u) W W' := by
  have hsrc := srcC hx
  by_cases hm : 0 < M.length
  · obtain ⟨g, cap, W', h1, h2, h3, _⟩ := run_append_keep W 35 40 35 ty _ 3 24 infoC Tryz.underlying35 rfl u L.length (flatC L) (Row.min h) x M.length hm (flatC M) hsrc (by unfold maxLen; omega) (by omega)
    refine ⟨_, cap, W', h1, ?_, h3⟩
    unfold CRow
    rw [flatC_app, List.length_append]
    exact h2
  · obtain rfl : M = [] := List.eq_nil_of_length_eq_zero (by omega)
    obtain ⟨i, hi0, hz, hsz, hby⟩ := info_parts infoC
    rw [← hsz] at hsrc
    rcases h.1.2 with ⟨rfl, hl0⟩ | ⟨g, cap, cur, rfl, hge, hg, hnc, hcm, hcs, htk⟩
    · obtain rfl : L = [] := List.eq_nil_of_length_eq_zero hl0
      refine ⟨none, 0, W, ?_, crow_nil _ _, Only.refl _ _⟩
      have hc := hsrc.cells
      have hn := hsrc.len
      simp only [List.length_nil] at hc hn
      simp [Builtin.append_, run_underlying Tryz.underlying35, sizeOf, typeInfo, hi0, hn, hc]
    · have hr := run_append_room_src (P := Tryz.prog) W 35 35 ty 40 i Tryz.underlying35 hi0 g 0 L.length cap x 0 (flatC []) hsrc (by omega)
        (fun j hj => by simp [flatC] at hj)
        (fun j hj => by simp [flatC] at hj)
      refine ⟨_, cap, W, hr, ?_, Only.refl _ _⟩
      simp only [List.append_nil, List.length_nil, Nat.add_zero]
      exact ⟨h.1, fun k hk => .inl hk⟩
/-- one count more -/
theorem cpush {W : World} {S : Nat → Prop} {u : Value} {L : List (Nat × Nat)} (h : CRow W S u L) (hS : ∀ k, W.heap.size ≤ k → S k) (ty : TypeId) (c : Nat × Nat) (x y z : Value) (he : encC c = [x, y, z]) (hl : L.length ≤ 4000000000000) :
    ∃ a n cap W', (Builtin.append_ #[35, 35] ty #[u, .slice (some ⟨W.heap.size, 0, none⟩) 1 1]).run Tryz.prog (W.alloc (.cells #[x, y, z] 40)) = .ok (.slice a n cap) W' ∧ Hid (CRow W' S (.slice a n cap) (L ++ [c]) ∧ Only (own u) W W') := by
  simp only [encC, List.cons.injEq, and_true] at he
  obtain ⟨rfl, rfl, rfl⟩ := he
  have hb := heap_alloc_new W (.cells #[.int .u64 ((c.1 % 18446744073709551616 : Nat) : Int), .int .u32 ((c.1 / 18446744073709551616 : Nat) : Int), .int .i64 (c.2 : Int)] 40)
  have hx : CSl (W.alloc (.cells #[.int .u64 ((c.1 % 18446744073709551616 : Nat) : Int), .int .u32 ((c.1 / 18446744073709551616 : Nat) : Int), .int .i64 (c.2 : Int)] 40)) (.slice (some ⟨W.heap.size, 0, none⟩) 1 1) [c] := by
    refine ⟨_, _, rfl, Nat.le_refl _, by decide, fun j hj => ?_⟩
    obtain rfl : j = 0 := by simp at hj; omega
    exact ⟨W.heap.size, 0, rfl, cell_of_row _ _ 0 _ _ _ hb, cell_of_row _ _ 1 _ _ _ hb, cell_of_row _ _ 2 _ _ _ hb⟩
  obtain ⟨a, cap, W', h1, h2, h3⟩ := capp (Row.alloc (Row.min h) _ : CRow _ (own u) u L) ty hx (by simp; omega)
  refine ⟨a, _, cap, W', h1, Row.wide h2 ?_, ((Only.refl _ W).alloc _).then h3⟩
  rintro k (hk | hk)
  · exact h.2 k hk
  · exact hS k (by simp at hk; omega)
theorem cpushD {W : World} {S : Nat → Prop} {u : Value} {L : List (Nat × Nat)} (h : CRow W S u L) (hS : ∀ k, W.heap.size ≤ k → S k) (ty : TypeId) (c : Nat × Nat) (x y z : Value) (he : encC c = [x, y, z]) (hl : L.length ≤ 4000000000000) :
    ∃ a n cap W', (Builtin.append_ #[35, 35] ty #[u, .slice (some ⟨W.heap.size, 0, none⟩) 1 1]).run Tryz.prog (W.alloc (.cells #[x, y, z] 40)).drew = .ok (.slice a n cap) W' ∧ Hid (CRow W' S (.slice a n cap) (L ++ [c]) ∧ Only (own u) W W') := by
  obtain ⟨a, n, cap, W', h1, h2, h3⟩ := cpush (W := W.drew) (Row.drew h) hS ty c x y z he hl
  exact ⟨a, n, cap, W', h1, h2, ((Only.refl _ W).drew).then h3⟩
/-- the document's index: q leads to its counts; its blocks lie in S -/
def RfC (w : World) (S : Nat → Prop) (q : Nat) (cs : List (Nat × Nat)) : Prop := S q ∧ ∃ v, Boxed w q 37 v ∧ CSl w v cs ∧ In S v
theorem RfC.only {S S' : Nat → Prop} {w w' : World} {q : Nat} {cs : List (Nat × Nat)} (h : RfC w S q cs) (x : Only S' w w') (hd : ∀ k, S k → ¬ S' k) : RfC w' S q cs := by
  obtain ⟨h0, v, h1, h2, h3⟩ := h
  exact ⟨h0, v, bOnly h1 x (hd q h0), h2.only h3 x hd, h3⟩
theorem RfC.ext {S : Nat → Prop} {w w' : World} {q : Nat} {cs : List (Nat × Nat)} (h : RfC w S q cs) (x : Ext w w') : RfC w' S q cs :=
  h.only (x.only (S := fun _ => False)) (fun _ _ h => h)
end Go.Proofs.YtpajkeljgifndaaGreat

/-
  'append' to a row of numbers, also where the row is as long as a row that comes in may be.
-/
namespace Go.Proofs.YtpajkeljgifndaaGreat
open Go.RowKit

theorem run_append_row1w (w : World) (S : Nat → Prop) (t e tx ty : TypeId) (z : Value) (bytes : Nat) (hi : (Tryz.prog.info? e).map (fun i => (i.zero, i.size, i.bytes)) = some (some z, 1, bytes)) (ht : Tryz.prog.underlying t = some (.slice e)) (hzs : z.cells.size = 1)
    (v : Value) (n : Nat) (xs : List Value) (hrow : Row w S e 1 v n xs) (x : Value) (m : Nat) (news : List Value) (hs : Src Tryz.prog 1 tx x m news w) (h63 : n + m ≤ maxLen) (hb : ((n + m) + (n + m) / 4 + 192) * bytes ≤ 281474976710656) :
    ∃ v' w', (Builtin.append_ #[t, tx] ty #[v, x]).run Tryz.prog w = .ok v' w' ∧ Row w' (Up S w.heap.size) e 1 v' (n + m) (xs ++ news) ∧ Only S w w' ∧ (∃ a cap, v' = .slice a (n + m) cap) := by
  obtain ⟨i, hi0, hz, hsz, hby⟩ := info_parts hi
  have hsl : news.length = m := by simpa using hs.newsLen
  have h63' : ((n + m : Nat) : Int) ≤ 9223372036854775807 := by unfold maxLen at h63; omega
  rw [← hsz] at hs
  have grow : ∀ (base : Option Addr) (cap : Nat), v = .slice base n cap → cap < n + m → (Builtin.firstCells i.size n (.slice base n cap)).run Tryz.prog w.drew = .ok xs.toArray w.drew → xs.length = n →
      ∃ v' w', (Builtin.append_ #[t, tx] ty #[v, x]).run Tryz.prog w = .ok v' w' ∧ Row w' (Up S w.heap.size) e 1 v' (n + m) (xs ++ news) ∧ Only S w w' ∧ (∃ a cap, v' = .slice a (n + m) cap) := by
    intro base cap hv hc hold hxl
    subst hv
    have hr := run_append_grow_src (P := Tryz.prog) w t tx ty e i z ht hi0 hz base n cap xs hold x m news hs hc h63' (by rw [hby]; exact growslice_fits_wide hc hb)
    refine ⟨_, _, hr, ?_, (Only.refl S w).drew.alloc _, ⟨_, _, rfl⟩⟩
    have hge := grownCap_ge w (n + m) cap e
    refine ⟨⟨by simp; omega, .inr ⟨w.heap.size, _, _, rfl, Nat.zero_le _, heap_alloc_new w.drew _, hge, grownCap_le_maxLen w (n + m) cap e h63, ?_, ?_⟩⟩, fun k hk => ?_⟩
    · simp [Builtin.zeroCells, hzs]; omega
    · simp only [Array.toList_append, Nat.mul_one]
      rw [List.take_append_of_le_length (by simp; omega), List.take_of_length_le (by simp; omega)]
    · simp only [Value.ownBlock, Option.some.injEq] at hk
      exact .inr (by omega)
  rcases hrow.1.2 with ⟨rfl, rfl⟩ | ⟨g, cap, cur, rfl, _, hg, hnc, hcm, hcs, htk⟩
  · have hxs : xs = [] := List.eq_nil_of_length_eq_zero (by simpa using hrow.1.1)
    subst hxs
    by_cases hm : m = 0
    · subst hm
      have hn0 : news = [] := List.eq_nil_of_length_eq_zero hsl
      subst hn0
      refine ⟨.slice none 0 0, w, ?_, row_nil _ _ _ _, Only.refl _ _, ⟨_, _, rfl⟩⟩
      rcases hs.kind with ⟨e', hk⟩ | hk <;> simp [Builtin.append_, run_underlying ht, run_underlying hk, sizeOf, typeInfo, hi0, hs.len, hs.cells]
    · exact grow none 0 rfl (by omega) (run_firstCells_none w.drew i.size 0 0 0) rfl
  · have hxl : xs.length = n := by simpa using hrow.1.1
    have hcell : ∀ j u, xs[j]? = some u → w.cell? ((⟨g, 0, none⟩ : Addr).add j) = some u := World.ownsRow.cells hrow.1 rfl
    by_cases hroom : n + m ≤ cap
    · have hcur : cur.size = cap := by simpa using hcs
      have hr := run_append_room_src (P := Tryz.prog) w t tx ty e i ht hi0 g 0 n cap x m news hs hroom
        (fun j hj => by rw [hsz, cell_of_row w g _ cur e (0, 0) hg, Array.getElem?_eq_getElem (by omega)]; rfl)
        (fun j hj => by simp [World.frozen?, hg])
      rw [hsz] at hr
      refine ⟨_, _, hr, ?_, Only.setCells w g _ news (hrow.2 g rfl), ⟨_, _, rfl⟩⟩
      have hh := heap_setCells_at g e (0, 0) news (0 + n * 1) w cur.toList hg (by simp; omega)
      refine ⟨⟨by simp; omega, .inr ⟨g, cap, _, rfl, Nat.zero_le _, hh, by omega, hcm, ?_, ?_⟩⟩, fun k hk => ?_⟩
      · simp; omega
      · rw [Nat.mul_one] at htk
        simp only [Nat.zero_add, Nat.mul_one, htk]
        rw [List.take_append_of_le_length (by simp; omega), List.take_of_length_le (by simp; omega)]
      · simp only [Value.ownBlock, Option.some.injEq] at hk
        exact .inl (hrow.2 k (by simp [Value.ownBlock, hk]))
    · refine grow (some ⟨g, 0, none⟩) cap rfl (by omega) ?_ hxl
      rw [hsz]
      exact run_firstCells_some w.drew 1 n ⟨g, 0, none⟩ n cap xs (by simpa using hxl) (by simpa using hcell)

theorem run_append6w (w : World) (S : Nat → Prop) (ty : TypeId) (v : Value) (l : List UInt64) (hrow : RowE 30 U6 w S v l) (x : Value) (n : Nat) (m : List UInt64) (hs : Src Tryz.prog 1 50 x n (m.map U6) w) (hn : n = m.length) (hb : l.length + m.length ≤ 17592186045416) :
    ∃ w' a cap, (Builtin.append_ #[50, 50] ty #[v, x]).run Tryz.prog w = .ok (.slice a (l.length + n) cap) w' ∧ RowE 30 U6 w' (Up S w.heap.size) (.slice a (l.length + n) cap) (l ++ m) ∧ Only S w w' := by
  subst hn
  obtain ⟨v', w', h1, h2, h3, a, cap, rfl⟩ := run_append_row1w w S 50 30 50 ty _ 8 info6 Tryz.underlying50 rfl v l.length (l.map U6) hrow x m.length (m.map U6) hs (by unfold maxLen; omega) (by omega)
  exact ⟨w', a, cap, h1, rowE_of h2 (by simp) (by simp) (fun _ h => h), h3⟩
end Go.Proofs.YtpajkeljgifndaaGreat

/-
  The document's merge.
-/
namespace Go.Proofs.YtpajkeljgifndaaGreat
open Go.RowKit Go.Shelf

/-- blocks of B that hold cells stand as they stood -/
def Keep (B : Nat → Prop) (W W' : World) : Prop := W.heap.size ≤ W'.heap.size ∧ ∀ k c t fz, B k → W.heap[k]? = some (.cells c t fz) → W'.heap[k]? = some (.cells c t fz)
theorem Keep.refl (B : Nat → Prop) (W : World) : Keep B W W := ⟨Nat.le_refl _, fun _ _ _ _ _ h => h⟩
theorem Keep.trans {B : Nat → Prop} {A C D : World} (h : Keep B A C) (k : Keep B C D) : Keep B A D := ⟨Nat.le_trans h.1 k.1, fun g c t fz hg hh => k.2 g c t fz hg (h.2 g c t fz hg hh)⟩
theorem Keep.ext {B : Nat → Prop} {W W' : World} (h : Ext W W') : Keep B W W' := ⟨h.size, fun g _ _ _ _ hh => (h.block g (Array.getElem?_eq_some_iff.1 hh).1).trans hh⟩
theorem cell_block {w : World} {p : Addr} {u : Value} (h : w.cell? p = some u) : ∃ c t fz, w.heap[p.block]? = some (.cells c t fz) := by
  unfold World.cell? at h
  split at h
  · exact ⟨_, _, _, by assumption⟩
  · cases h
theorem Keep.cell {B : Nat → Prop} {W W' : World} (h : Keep B W W') {p : Addr} {u : Value} (hp : W.cell? p = some u) (hB : B p.block) : W'.cell? p = some u := by
  obtain ⟨c, t, fz, hc⟩ := cell_block hp
  have hc' := h.2 _ _ _ _ hB hc
  rw [World.cell?_of_block (hc'.trans hc.symm)]; exact hp
theorem Sl.kept {α : Type} {enc : α → Value} {B : Nat → Prop} {W W' : World} {v : Value} {l : List α} (h : Sl enc W v l) (k : Keep B W W') (hB : In B v) : Sl enc W' v l := by
  obtain ⟨a, cap, rfl, h1, h2, h3⟩ := h
  refine ⟨a, cap, rfl, h1, h2, fun j hj => ?_⟩
  obtain ⟨g, o, rfl, hc⟩ := h3 j hj
  exact ⟨g, o, rfl, k.cell hc (hB ⟨g, o, none⟩ _ _ rfl (by omega))⟩
def lenOf : Value → Nat
  | .slice _ n _ => n
  | _ => 0
theorem Keep.ofOnly {B S : Nat → Prop} {W W' : World} (h : Only S W W') (hB : ∀ k, B k → ¬ S k) : Keep B W W' := ⟨h.size, fun k _ _ _ hk hc => (h.block k (Array.getElem?_eq_some_iff.1 hc).1 (hB k hk)).trans hc⟩
/-- a number more in a row of one's own -/
theorem push_row {w wr : World} {a : Option Addr} {n c : Nat} {acc : List UInt64} (hx : Ext w wr) (hrow : RowE 30 U6 wr (fun q => w.heap.size ≤ q) (.slice a n c) acc) (id : UInt64) (ty : TypeId) (hl : acc.length ≤ 17592186045000) :
    ∃ w9 a9 c9, (Builtin.append_ #[50, 50] ty #[.slice a n c, .slice (some ⟨wr.heap.size, 0, none⟩) 1 1]).run Tryz.prog (wr.alloc (.cells #[.int .u64 (id.toNat : Int)] 30)) = .ok (.slice a9 (n + 1) c9) w9 ∧
      Hid (RowE 30 U6 w9 (fun q => w.heap.size ≤ q) (.slice a9 (n + 1) c9) (acc ++ [id]) ∧ Ext w w9 ∧ Keep (fun k => k < w.heap.size) wr w9) := by
  obtain ⟨w9, a9, c9, hr, r9, o9⟩ := run_append6w (wr.alloc (.cells #[.int .u64 (id.toNat : Int)] 30)) _ ty _ _ (Row.alloc hrow _) _ 1 [id] (srcB Tryz.underlying50 one6 _ wr.heap.size _ _ 1 1 (heap_alloc_new wr _) rfl rfl) rfl (by simp; omega)
  have hn : n = acc.length := hrow.sl.len.1
  subst hn
  have o9' : Only (fun q => w.heap.size ≤ q) wr w9 := ((Only.refl _ wr).alloc _).trans (o9.mono fun _ _ h => .inl h)
  refine ⟨w9, a9, c9, hr, ?_, hx.then o9' (fun _ h => h), Keep.ofOnly o9' (fun k hk => by omega)⟩
  refine r9.to rfl rfl ?_
  have hz := hx.size
  rintro q (hq | hq)
  · exact hq
  · simp at hq; omega
theorem in_below {w : World} {v : Value} {l : List UInt64} (hs : Sl U6 w v l) : In (fun k => k < w.heap.size) v := by
  rintro a' n' c' rfl hpos
  obtain ⟨g, o, e, hc⟩ := hs.at 0 (by have := hs.len.1; omega)
  simp only [Option.some.injEq] at e
  subst e
  exact World.block_lt_of_cell? w _ hc
/-- a list without its first -/
theorem Sl.tail {w : World} {a : Option Addr} {n c : Nat} {l : List UInt64} {B : Nat → Prop} (h : Sl U6 w (.slice a n c) l) (hi : In B (.slice a n c)) (hn : 1 ≤ n) : Sl U6 w (sliced a 1 n c 1) (l.drop 1) ∧ In B (sliced a 1 n c 1) := by
  have hl := h.len
  have h1 := h.cut 1 n c hn (by omega) hl.2.1 (Nat.le_refl _)
  rw [List.take_of_length_le (by omega)] at h1
  exact ⟨h1, hi.cut 1 n c hn (Nat.le_refl _)⟩
theorem Sl.tail1 {w : World} {g o n c : Nat} {x : UInt64} {t : List UInt64} {B : Nat → Prop} (h : Sl U6 w (.slice (some ⟨g, o, none⟩) n c) (x :: t)) (hi : In B (.slice (some ⟨g, o, none⟩) n c)) :
    Sl U6 w (.slice (if c = 1 then some ⟨g, o, none⟩ else some ⟨g, o + 1, none⟩) (n - 1) (c - 1)) t ∧ In B (.slice (if c = 1 then some ⟨g, o, none⟩ else some ⟨g, o + 1, none⟩) (n - 1) (c - 1)) := by
  have h1 := h.tail hi (by have := h.len.1; simp at this; omega)
  simpa [sliced, Addr.add] using h1
theorem head_at {w : World} {a : Option Addr} {n c : Nat} {x : UInt64} {t : List UInt64} (h : Sl U6 w (.slice a n c) (x :: t)) : ∃ g o, a = some ⟨g, o, none⟩ ∧ w.cell? ⟨g, o, none⟩ = some (.int .u64 (x.toNat : Int)) := by
  obtain ⟨g, o, e, hc⟩ := h.at 0 (by simp)
  exact ⟨g, o, e, by simpa [U6] using hc⟩

set_option maxRecDepth 100000 in
set_option maxHeartbeats 8000000 in
theorem rmerge_any (w : World) (va vb : Value) (A B : List UInt64) (hA : Sl U6 w va A) (hB : Sl U6 w vb B) (hl : A.length + B.length ≤ 17592186044417) :
    Calls Tryz.prog 58 #[va, vb] w fun x w' => ∃ u, x = .returned u ∧ RowE 30 U6 w' (fun q => w.heap.size ≤ q) u ((mrg A B).map (·.1)) ∧ Ext w w' := by
  obtain ⟨a, na, ca, rfl, hna⟩ := hA.shape
  obtain ⟨b, nb, cb, rfl, hnb⟩ := hB.shape
  have ia : Hid (In (fun k => k < w.heap.size) (.slice a na ca)) := in_below hA
  have ib : Hid (In (fun k => k < w.heap.size) (.slice b nb cb)) := in_below hB
  have hAh : Hid (Sl U6 w (.slice a na ca) A) := hA
  have hBh : Hid (Sl U6 w (.slice b nb cb) B) := hB
  obtain ⟨R, hR⟩ : ∃ R, (mrg A B).map (·.1) = R := ⟨_, rfl⟩
  have hRh : Hid ((mrg A B).map (·.1) = R) := hR
  rw [hR]
  clear hA hB hR
  have mixed := (by kernel_rfl : Tryz.prog.follows Departure.mixedOrders = true)
  go_enter Tryz.func58, Tryz.ntmps58
  go_wp2
  go_loopw [0, 1, 5] (fun x0 x1 x5 wr => ∃ (a0 : Option Addr) (n0 c0 : Nat) (a1 : Option Addr) (n1 c1 : Nat) (a5 : Option Addr) (n5 c5 : Nat), x0 = .slice a0 n0 c0 ∧ x1 = .slice a1 n1 c1 ∧ x5 = .slice a5 n5 c5 ∧ Hid (∃ (ra rb acc : List UInt64), n0 = ra.length ∧ n1 = rb.length ∧ acc.length + ra.length + rb.length ≤ A.length + B.length ∧
      (Sl U6 wr (.slice a0 n0 c0) ra ∧ In (fun k => k < w.heap.size) (.slice a0 n0 c0)) ∧ (Sl U6 wr (.slice a1 n1 c1) rb ∧ In (fun k => k < w.heap.size) (.slice a1 n1 c1)) ∧ RowE 30 U6 wr (fun q => w.heap.size ≤ q) (.slice a5 n5 c5) acc ∧ acc ++ (mrg ra rb).map (·.1) = R ∧ Ext w wr)) (fun x0 x1 _ _ => lenOf x0 + lenOf x1)
  case atStart => exact ⟨a, na, ca, b, nb, cb, none, 0, 0, rfl, rfl, rfl, A, B, [], hna.out, hnb.out, by simp, ⟨hAh.out, ia.out⟩, ⟨hBh.out, ib.out⟩, row_nil _ _ _ _, hRh.out, Ext.refl _⟩
  case round =>
    obtain ⟨a0, n0, c0, a1, n1, c1, a5, n5, c5, rfl, rfl, rfl, hH⟩ := hrel
    obtain ⟨ra, rb, acc, e0, e1, hsum, ⟨sa, ia0⟩, ⟨sb, ib0⟩, hrow, hun, hx⟩ := hH.out
    clear hH
    match ra, rb with
    | [], [] =>
      obtain rfl : n0 = 0 := e0
      obtain rfl : n1 = 0 := e1
      have hrowh : Hid (RowE 30 U6 wr (fun q => w.heap.size ≤ q) (.slice a5 n5 c5) R) := by
        rw [mrg_nil] at hun
        simp only [List.map_nil, List.append_nil] at hun
        rw [← hun]; exact hrow
      clear hun hrow sa sb
      go_wp2
      go_ret
      exact ⟨_, rfl, hrowh.out, hx⟩
    | x :: s, [] =>
      obtain rfl : n1 = 0 := e1
      have hn0 : 1 ≤ n0 := by simp at e0; omega
      obtain ⟨g, o, rfl, hc⟩ := head_at sa
      have hn0i : (0 : Int) < (n0 : Int) := by omega
      have hcap := sa.len.2.1
      have hmm : n0 ≤ 9223372036854775807 := by have hm := sa.len.2.2; unfold maxLen at hm; omega
      have e0h : Hid (n0 = (x :: s).length) := e0
      have hunh : Hid (acc ++ [x] ++ (mrg s []).map (·.1) = R) := by show _ = _; rw [← hun, mrg_nil', mrg_nil']; simp
      have ta : Hid _ := sa.tail1 ia0
      have sbh : Hid (Sl U6 wr (.slice a1 0 c1) []) := sb
      clear e0 hun sa sb
      go_wp2
      go_quiet (fail)
      go_wp2_with (at_builtin; refine Hid.out ?_)
      obtain ⟨w9, a9, c9, hr, hp⟩ := push_row (hx.drewN nq) (Row.ext hrow ((Ext.refl _).drewN nq)) x 50 (by simp at hsum; omega)
      refine Lib.wpList_append_run _ rfl _ _ _ _ rfl _ _ rfl rfl _ _ hr ?_
      clear hr
      go_wp2
      go_roundw
      case rel =>
        obtain ⟨p1, p2, p3⟩ := hp.out
        have p3' := (Keep.ext ((Ext.refl wr).drewN nq)).trans p3
        refine ⟨_, _, _, _, _, _, _, _, _, rfl, rfl, rfl, s, [], acc ++ [x], ?_, rfl, ?_, ⟨ta.out.1.kept p3' ta.out.2, ta.out.2⟩, ⟨sbh.out.kept p3' ib0, ib0⟩, p1, hunh.out, p2⟩
        · have := e0h.out; simp only [List.length_cons] at this; omega
        · simp at hsum ⊢; omega
      case measure => simp only [lenOf]; omega
    | [], y :: t =>
      obtain rfl : n0 = 0 := e0
      have hn1 : 1 ≤ n1 := by simp at e1; omega
      obtain ⟨g, o, rfl, hc⟩ := head_at sb
      have hn1i : (0 : Int) < (n1 : Int) := by omega
      have hn1b : ((n1 : Int) == 0) = false := by simpa using (show (n1 : Int) ≠ 0 by omega)
      have hcap := sb.len.2.1
      have hmm : n1 ≤ 9223372036854775807 := by have hm := sb.len.2.2; unfold maxLen at hm; omega
      have e1h : Hid (n1 = (y :: t).length) := e1
      have hunh : Hid (acc ++ [y] ++ (mrg [] t).map (·.1) = R) := by show _ = _; rw [← hun, mrg_nil, mrg_nil]; simp
      have tb : Hid _ := sb.tail1 ib0
      have sah : Hid (Sl U6 wr (.slice a0 0 c0) []) := sa
      clear e1 hun sa sb
      go_wp2
      go_quiet (fail)
      have xq : Ext wr (wr.drewN nq) := (Ext.refl wr).drewN nq
      have hc1 := xq.cell hc
      generalize wr.drewN nq = w1 at *
      go_wp2
      go_quiet (fail)
      go_wp2_with (at_builtin; refine Hid.out ?_)
      obtain ⟨w9, a9, c9, hr, hp⟩ := push_row ((hx.trans xq).drewN nq) (Row.ext hrow (xq.drewN nq)) y 50 (by simp at hsum; omega)
      refine Lib.wpList_append_run _ rfl _ _ _ _ rfl _ _ rfl rfl _ _ hr ?_
      clear hr
      go_wp2
      go_roundw
      case rel =>
        obtain ⟨p1, p2, p3⟩ := hp.out
        have p3' := (Keep.ext (xq.drewN nq)).trans p3
        refine ⟨_, _, _, _, _, _, _, _, _, rfl, rfl, rfl, [], t, acc ++ [y], rfl, ?_, ?_, ⟨sah.out.kept p3' ia0, ia0⟩, ⟨tb.out.1.kept p3' tb.out.2, tb.out.2⟩, p1, hunh.out, p2⟩
        · have := e1h.out; simp at this; omega
        · simp at hsum ⊢; omega
      case measure => simp only [lenOf]; omega
    | x :: s, y :: t =>
      have hn0 : 1 ≤ n0 := by simp at e0; omega
      have hn1 : 1 ≤ n1 := by simp at e1; omega
      obtain ⟨g, o, rfl, hc⟩ := head_at sa
      obtain ⟨g2, o2, rfl, hc2⟩ := head_at sb
      have hn0i : (0 : Int) < (n0 : Int) := by omega
      have hn1i : (0 : Int) < (n1 : Int) := by omega
      have hn1b : ((n1 : Int) == 0) = false := by simpa using (show (n1 : Int) ≠ 0 by omega)
      have hcap := sa.len.2.1
      have hcap2 := sb.len.2.1
      have hd0 : decide (0 < n0) = true := decide_eq_true hn0
      have hmm : n0 ≤ 9223372036854775807 := by have hm := sa.len.2.2; unfold maxLen at hm; omega
      have hmm2 : n1 ≤ 9223372036854775807 := by have hm := sb.len.2.2; unfold maxLen at hm; omega
      have e0h : Hid (n0 = (x :: s).length) := e0
      have e1h : Hid (n1 = (y :: t).length) := e1
      have ta : Hid _ := sa.tail1 ia0
      have tb : Hid _ := sb.tail1 ib0
      have sah : Hid (Sl U6 wr (.slice (some ⟨g, o, none⟩) n0 c0) (x :: s)) := sa
      have sbh : Hid (Sl U6 wr (.slice (some ⟨g2, o2, none⟩) n1 c1) (y :: t)) := sb
      rw [mrg_cons] at hun
      clear e0 e1 sa sb
      by_cases hxy : x < y
      · have hlt : (x.toNat : Int) < (y.toNat : Int) := ltI hxy
        rw [if_pos hxy] at hun
        have hunh : Hid (acc ++ [x] ++ (mrg s (y :: t)).map (·.1) = R) := by show _ = _; rw [← hun]; simp
        clear hun hxy
        go_wp2
        go_quiet (fail)
        go_wp2_with (at_builtin; refine Hid.out ?_)
        obtain ⟨w9, a9, c9, hr, hp⟩ := push_row (hx.drewN nq) (Row.ext hrow ((Ext.refl _).drewN nq)) x 50 (by simp at hsum; omega)
        refine Lib.wpList_append_run _ rfl _ _ _ _ rfl _ _ rfl rfl _ _ hr ?_
        clear hr
        go_wp2
        go_roundw
        case rel =>
          obtain ⟨p1, p2, p3⟩ := hp.out
          have p3' := (Keep.ext ((Ext.refl wr).drewN nq)).trans p3
          refine ⟨_, _, _, _, _, _, _, _, _, rfl, rfl, rfl, s, y :: t, acc ++ [x], ?_, e1h.out, ?_, ⟨ta.out.1.kept p3' ta.out.2, ta.out.2⟩, ⟨sbh.out.kept p3' ib0, ib0⟩, p1, hunh.out, p2⟩
          · have := e0h.out; simp only [List.length_cons] at this; omega
          · simp at hsum ⊢; omega
        case measure => simp only [lenOf]; omega
      · have hge : decide ((x.toNat : Int) < (y.toNat : Int)) = false := by have := geI hxy; simp only [decide_eq_false_iff_not]; omega
        have hge2 : decide (x.toNat < y.toNat) = false := by have := geI hxy; simp only [decide_eq_false_iff_not]; omega
        rw [if_neg hxy] at hun
        by_cases hyx : y < x
        · have hne : ((x.toNat : Int) == (y.toNat : Int)) = false := by have := ltI hyx; simpa using (show (x.toNat : Int) ≠ (y.toNat : Int) by omega)
          rw [if_pos hyx] at hun
          have hunh : Hid (acc ++ [y] ++ (mrg (x :: s) t).map (·.1) = R) := by show _ = _; rw [← hun]; simp
          clear hun hxy hyx
          go_wp2
          go_quiet (fail)
          have xq : Ext wr (wr.drewN nq) := (Ext.refl wr).drewN nq
          have hc1 := xq.cell hc
          have hc3 := xq.cell hc2
          generalize wr.drewN nq = w1 at *
          go_wp2
          go_quiet (fail)
          go_wp2_with (at_builtin; refine Hid.out ?_)
          obtain ⟨w9, a9, c9, hr, hp⟩ := push_row ((hx.trans xq).drewN nq) (Row.ext hrow (xq.drewN nq)) y 50 (by simp at hsum; omega)
          refine Lib.wpList_append_run _ rfl _ _ _ _ rfl _ _ rfl rfl _ _ hr ?_
          clear hr
          go_wp2
          go_roundw
          case rel =>
            obtain ⟨p1, p2, p3⟩ := hp.out
            have p3' := (Keep.ext (xq.drewN nq)).trans p3
            refine ⟨_, _, _, _, _, _, _, _, _, rfl, rfl, rfl, x :: s, t, acc ++ [y], e0h.out, ?_, ?_, ⟨sah.out.kept p3' ia0, ia0⟩, ⟨tb.out.1.kept p3' tb.out.2, tb.out.2⟩, p1, hunh.out, p2⟩
            · have := e1h.out; simp at this; omega
            · simp at hsum ⊢; omega
          case measure => simp only [lenOf]; omega
        · have hexy : x = y := by rw [u_lt] at hxy hyx; rw [u_eq]; omega
          rw [if_neg hyx] at hun
          subst hexy
          have hunh : Hid (acc ++ [x] ++ (mrg s t).map (·.1) = R) := by show _ = _; rw [← hun]; simp
          clear hun hxy hyx
          by_cases hcc : c0 = 1
          · subst hcc
            obtain rfl : n0 = 1 := by omega
            have tc : Hid (Sl U6 wr (.slice (some ⟨g, o, none⟩) 0 0) s ∧ In (fun k => k < w.heap.size) (.slice (some ⟨g, o, none⟩) 0 0)) := by have h := ta.out; rw [if_pos rfl] at h; exact h
            clear ta
            go_wp2
            go_quiet (fail)
            have xq : Ext wr (wr.drewN nq) := (Ext.refl wr).drewN nq
            have hc1 := xq.cell hc
            have hc3 := xq.cell hc2
            generalize wr.drewN nq = w1 at *
            go_wp2
            go_quiet (fail)
            go_wp2_with (at_builtin; refine Hid.out ?_)
            obtain ⟨w9, a9, c9, hr, hp⟩ := push_row ((hx.trans xq).drewN nq) (Row.ext hrow (xq.drewN nq)) x 50 (by simp at hsum; omega)
            refine Lib.wpList_append_run _ rfl _ _ _ _ rfl _ _ rfl rfl _ _ hr ?_
            clear hr
            go_wp2
            go_roundw
            case rel =>
              obtain ⟨p1, p2, p3⟩ := hp.out
              have p3' := (Keep.ext (xq.drewN nq)).trans p3
              refine ⟨_, _, _, _, _, _, _, _, _, rfl, rfl, rfl, s, t, acc ++ [x], ?_, ?_, ?_, ⟨tc.out.1.kept p3' tc.out.2, tc.out.2⟩, ⟨tb.out.1.kept p3' tb.out.2, tb.out.2⟩, p1, hunh.out, p2⟩
              · have := e0h.out; simp only [List.length_cons] at this; omega
              · have := e1h.out; simp at this; omega
              · simp at hsum ⊢; omega
            case measure => simp only [lenOf]; omega
          · have tc : Hid (Sl U6 wr (.slice (some ⟨g, o + 1, none⟩) (n0 - 1) (c0 - 1)) s ∧ In (fun k => k < w.heap.size) (.slice (some ⟨g, o + 1, none⟩) (n0 - 1) (c0 - 1))) := by have h := ta.out; rw [if_neg hcc] at h; exact h
            clear ta
            go_wp2
            go_quiet (fail)
            have xq : Ext wr (wr.drewN nq) := (Ext.refl wr).drewN nq
            have hc1 := xq.cell hc
            have hc3 := xq.cell hc2
            generalize wr.drewN nq = w1 at *
            go_wp2
            go_quiet (fail)
            go_wp2_with (at_builtin; refine Hid.out ?_)
            obtain ⟨w9, a9, c9, hr, hp⟩ := push_row ((hx.trans xq).drewN nq) (Row.ext hrow (xq.drewN nq)) x 50 (by simp at hsum; omega)
            refine Lib.wpList_append_run _ rfl _ _ _ _ rfl _ _ rfl rfl _ _ hr ?_
            clear hr
            go_wp2
            go_roundw
            case rel =>
              obtain ⟨p1, p2, p3⟩ := hp.out
              have p3' := (Keep.ext (xq.drewN nq)).trans p3
              refine ⟨_, _, _, _, _, _, _, _, _, rfl, rfl, rfl, s, t, acc ++ [x], ?_, ?_, ?_, ⟨tc.out.1.kept p3' tc.out.2, tc.out.2⟩, ⟨tb.out.1.kept p3' tb.out.2, tb.out.2⟩, p1, hunh.out, p2⟩
              · have := e0h.out; simp only [List.length_cons] at this; omega
              · have := e1h.out; simp at this; omega
              · simp at hsum ⊢; omega
            case measure => simp only [lenOf]; omega
end Go.Proofs.YtpajkeljgifndaaGreat

/-
  The document's Set, Put, Union's parts.
-/
namespace Go.Proofs.YtpajkeljgifndaaGreat
open Go.RowKit Go.Shelf

theorem row_empty (w : World) : RowE 30 U6 (w.alloc (.cells #[] 30)) (fun q => w.heap.size ≤ q) (.slice (some ⟨w.heap.size, 0, none⟩) 0 0) [] := by
  refine ⟨⟨rfl, .inr ⟨w.heap.size, 0, #[], rfl, Nat.zero_le _, heap_alloc_new w _, Nat.le_refl _, Nat.zero_le _, rfl, rfl⟩⟩, fun k hk => ?_⟩
  simp only [Value.ownBlock, Option.some.injEq] at hk
  omega
theorem set_short {l : List UInt64} (h : l.length < 2) : setL l = l := by
  match l with
  | [] => rfl
  | [x] => rfl
  | x :: y :: t => simp only [List.length_cons] at h; omega
theorem set_two (l : List UInt64) (h : Nat) : (mrg (setL (l.take h)) (setL (l.drop h))).map (·.1) = setL l := by
  have := union_two [l.take h] [l.drop h]
  rw [union_one, union_one] at this
  rw [this]
  simp [unionL]
theorem sl_drop {w : World} {a : Option Addr} {n cap : Nat} {l : List UInt64} (h : Sl U6 w (.slice a n cap) l) (k : Nat) (hk : k ≤ l.length) : Sl U6 w (.slice (if cap = k then a else a.map (fun x => x.add k)) (n - k) (cap - k)) (l.drop k) := by
  have hl := h.len
  have h1 := h.cut k n cap (by omega) (by omega) hl.2.1 (Nat.le_refl _)
  rw [List.take_of_length_le (by omega)] at h1
  simpa [sliced] using h1

set_option maxRecDepth 100000 in
set_option maxHeartbeats 4000000 in
theorem rset_short (w : World) (v : Value) (l : List UInt64) (h2 : l.length < 2) (hs : Sl U6 w v l) :
    Calls Tryz.prog 47 #[v] w fun x w' => ∃ u, x = .returned u ∧ RowE 30 U6 w' (fun q => w.heap.size ≤ q) u (setL l) ∧ Ext w w' := by
  rw [set_short h2]
  have hsh : Hid (Sl U6 w v l) := hs
  obtain ⟨a, n, cap, rfl, hn⟩ := hs.shape
  have hn2 : (n : Int) < 2 := by have := hn.out; omega
  clear hs
  go_enter Tryz.func47, Tryz.ntmps47
  go_wp2_with (at_builtin; refine Hid.out ?_)
  obtain ⟨w9, a9, c9, hr, r9, o9⟩ := run_append6w (w.alloc (.cells #[] 30)) _ 50 _ _ (row_empty w) _ _ l (srcV Tryz.underlying50 one6 (hsh.out.ext ((Ext.refl w).alloc _))) rfl (by simp; omega)
  obtain ⟨N, hN⟩ : ∃ N, ([] : List UInt64).length + l.length = N := ⟨_, rfl⟩
  rw [hN] at hr r9
  refine Lib.wpList_append_run _ rfl _ _ _ _ rfl _ _ rfl rfl _ _ hr ?_
  clear hr hN
  have r9h : Hid (RowE 30 U6 w9 (fun q => w.heap.size ≤ q) (.slice a9 N c9) l) := by
    refine r9.to rfl rfl ?_
    rintro q (hq | hq)
    · exact hq
    · simp at hq; omega
  have x9 : Ext w w9 := (Ext.refl w).then (((Only.refl (fun q => w.heap.size ≤ q) w).alloc _).trans (o9.mono fun _ _ h => .inl h)) (fun _ h => h)
  clear r9 o9
  go_wp2
  go_ret
  exact ⟨_, rfl, r9h.out, x9⟩

set_option maxRecDepth 100000 in
set_option maxHeartbeats 4000000 in
theorem rset_long (w : World) (v : Value) (l : List UInt64) (h2 : 2 ≤ l.length) (hl : l.length ≤ 17592186044416) (hs : Sl U6 w v l)
    (ih : ∀ (w1 : World) (v1 : Value) (l1 : List UInt64), l1.length < l.length → Sl U6 w1 v1 l1 → Calls Tryz.prog 47 #[v1] w1 fun x w' => ∃ u, x = .returned u ∧ RowE 30 U6 w' (fun q => w1.heap.size ≤ q) u (setL l1) ∧ Ext w1 w') :
    Calls Tryz.prog 47 #[v] w fun x w' => ∃ u, x = .returned u ∧ RowE 30 U6 w' (fun q => w.heap.size ≤ q) u (setL l) ∧ Ext w w' := by
  obtain ⟨a, n, cap, rfl, hn⟩ := hs.shape
  have hnl : n = l.length := hn.out
  obtain ⟨h, hh⟩ : ∃ h, n / 2 = h := ⟨_, rfl⟩
  have hhb : 1 ≤ h ∧ h < n := by omega
  have hq : (n : Int).tdiv 2 = (h : Int) := by rw [Int.tdiv_eq_ediv_of_nonneg (by omega)]; omega
  have hn2 : decide ((n : Int) < 2) = false := by simp only [decide_eq_false_iff_not]; omega
  have hn2' : decide (n < 2) = false := by simp only [decide_eq_false_iff_not]; omega
  have hcap := hs.len.2.1
  have hmm : n ≤ 9223372036854775807 := by omega
  have hI1 := ih w _ (l.take h) (by simp; omega) (sl_take hs h (by omega))
  have hI2 := fun w1 (hx : Ext w w1) => ih w1 _ (l.drop h) (by simp; omega) (sl_drop (hs.ext hx) h (by omega))
  have hm := fun w1 va vb (h1 : Sl U6 w1 va (setL (l.take h))) (h3 : Sl U6 w1 vb (setL (l.drop h))) => rmerge_any w1 va vb _ _ h1 h3 (by have := setL_len (l.take h); have := setL_len (l.drop h); simp at *; omega)
  simp only [set_two] at hm
  have hne : ¬ cap = h := by omega
  simp only [if_neg hne] at hI2
  clear ih hs hn hnl h2 hl
  go_enter Tryz.func47, Tryz.ntmps47
  go_wp2_with fail
  go_at_call 47
  refine hI1.mono ?_
  rintro _ w1 ⟨u1, rfl, r1, x1⟩
  have s1 := r1.sl
  obtain ⟨a1, n1, c1, rfl, _⟩ := s1.shape
  clear hI1 r1
  go_wp2_with fail
  go_at_call 47
  refine (hI2 _ x1).mono ?_
  rintro _ w2 ⟨u2, rfl, r2, x2⟩
  have s2 := r2.sl
  obtain ⟨a2, n2, c2, rfl, _⟩ := s2.shape
  clear hI2 r2
  go_wp2_with fail
  go_at_call 58
  refine (hm _ _ _ (s1.ext x2) s2).mono ?_
  rintro _ w3 ⟨u3, rfl, r3, x3⟩
  go_wp2_with fail
  go_ret
  exact ⟨_, rfl, r3.to rfl rfl (fun q hq => Nat.le_trans (x1.trans x2).size hq), (x1.trans x2).trans x3⟩

theorem rset_any : ∀ (d : Nat) (w : World) (v : Value) (l : List UInt64), l.length ≤ d → l.length ≤ 17592186044416 → Sl U6 w v l →
    Calls Tryz.prog 47 #[v] w fun x w' => ∃ u, x = .returned u ∧ RowE 30 U6 w' (fun q => w.heap.size ≤ q) u (setL l) ∧ Ext w w' := by
  intro d
  induction d with
  | zero => exact fun w v l hd _ hs => rset_short w v l (by omega) hs
  | succ d ih =>
    intro w v l hd hl hs
    by_cases h2 : l.length < 2
    · exact rset_short w v l h2 hs
    · exact rset_long w v l (by omega) hl hs (fun w1 v1 l1 hlt hs1 => ih w1 v1 l1 (by omega) (by omega) hs1)

end Go.Proofs.YtpajkeljgifndaaGreat

/-
  Where a number lies in a right list: plain facts. No dump is imported here.
-/
namespace Go.Proofs.YtpajkeljgifndaaGreat

theorem place_spec (id : UInt64) : ∀ s : List UInt64, placeL s id ≤ s.length ∧ (∀ j (h : j < s.length), j < placeL s id → s[j] < id) ∧ (∀ h : placeL s id < s.length, ¬ s[placeL s id] < id)
  | [] => by simp [placeL]
  | x :: t => by
    obtain ⟨i1, i2, i3⟩ := place_spec id t
    by_cases hx : x < id
    · have e : placeL (x :: t) id = placeL t id + 1 := by simp [placeL, hx]
      rw [e]
      refine ⟨by simpa using i1, fun j h hj => ?_, fun h => by simpa using i3 (by simpa using h)⟩
      match j with
      | 0 => simpa using hx
      | j + 1 => simpa using i2 j (by simpa using h) (by omega)
    · have e : placeL (x :: t) id = 0 := by simp [placeL, hx]
      simp only [e]
      exact ⟨by simp, fun j h hj => by omega, fun h => by simpa using hx⟩
theorem place_only {s : List UInt64} {id : UInt64} {m : Nat} (h1 : m ≤ s.length) (h2 : ∀ j (h : j < s.length), j < m → s[j] < id) (h3 : ∀ h : m < s.length, ¬ s[m] < id) : m = placeL s id := by
  obtain ⟨i1, i2, i3⟩ := place_spec id s
  rcases Nat.lt_trichotomy m (placeL s id) with h | h | h
  · exact absurd (i2 m (by omega) h) (h3 (by omega))
  · exact h
  · exact absurd (h2 _ (by omega) h) (i3 (by omega))
theorem rises_lt {s : List UInt64} (h : Rises s) {i j : Nat} (hi : i < s.length) (hj : j < s.length) (hij : i < j) : s[i] < s[j] := List.pairwise_iff_getElem.1 h i j hi hj hij
theorem place_from {s : List UInt64} (hr : Rises s) (id : UInt64) (m : Nat) (hm : m ≤ s.length) : m + placeL (s.drop m) id = max (placeL s id) m := by
  obtain ⟨i1, i2, i3⟩ := place_spec id s
  obtain ⟨j1, j2, j3⟩ := place_spec id (s.drop m)
  rcases Nat.lt_or_ge m (placeL s id) with h | h
  · rw [Nat.max_eq_left (by omega)]
    refine place_only (by simp at j1; omega) (fun j hj hlt => ?_) (fun hlt => ?_)
    · rcases Nat.lt_or_ge j m with h9 | h9
      · exact i2 j hj (by omega)
      · have := j2 (j - m) (by simp; omega) (by omega)
        simp only [List.getElem_drop] at this
        simpa [show m + (j - m) = j by omega] using this
    · have := j3 (by simp; omega)
      simpa [List.getElem_drop] using this
  · rw [Nat.max_eq_right h]
    have : 0 = placeL (s.drop m) id := place_only (Nat.zero_le _) (fun j _ hj => by omega) (fun hlt => by
      simp only [List.getElem_drop, Nat.add_zero]
      have hml : m < s.length := by simp at hlt; omega
      rcases Nat.eq_or_lt_of_le h with e | e
      · have h9 := i3 (by omega)
        simpa [e] using h9
      · have h9 := i3 (by omega)
        have h8 := rises_lt hr (by omega) hml e
        rw [u_lt] at *; omega)
    omega
theorem place_has {s : List UInt64} (hr : Rises s) (id : UInt64) : id ∈ s ↔ ∃ h : placeL s id < s.length, s[placeL s id] = id := by
  obtain ⟨i1, i2, i3⟩ := place_spec id s
  constructor
  · intro h
    obtain ⟨j, hj, e⟩ := List.getElem_of_mem h
    have h1 : placeL s id ≤ j := by
      rcases Nat.lt_or_ge j (placeL s id) with h9 | h9
      · have := i2 j hj h9
        rw [e, u_lt] at this; omega
      · exact h9
    have hk : placeL s id < s.length := by omega
    refine ⟨hk, ?_⟩
    rcases Nat.eq_or_lt_of_le h1 with h9 | h9
    · simp only [h9]; exact e
    · have := rises_lt hr hk hj h9
      have h8 := i3 hk
      rw [e] at this; exact absurd this h8
  · rintro ⟨h, e⟩
    rw [← e]; exact List.getElem_mem h
end Go.Proofs.YtpajkeljgifndaaGreat

/-
  The document's pick, Meet, Less, Drop.
-/
namespace Go.Proofs.YtpajkeljgifndaaGreat
open Go.RowKit Go.Shelf

def pickR (X Y : List UInt64) (has : Bool) : List UInt64 := X.filter (fun z => decide (z ∈ Y) == has)
theorem pk_in {X Y : List UInt64} (rY : Rises Y) {i k : Nat} (hi : i < X.length) (h1 : ∀ j (hj : j < Y.length), j < k → Y[j] < X[i]) (h2 : ∀ hk : k < Y.length, ¬ Y[k] < X[i]) : X[i] ∈ Y ↔ ∃ hk : k < Y.length, Y[k] = X[i] := by
  constructor
  · intro hm
    obtain ⟨j, hj, he⟩ := List.getElem_of_mem hm
    rcases Nat.lt_trichotomy j k with e | e | e
    · have := h1 j hj e
      rw [he, u_lt] at this; omega
    · subst e; exact ⟨hj, he⟩
    · have h3 := rises_lt rY (show k < Y.length by omega) hj e
      have h4 := h2 (by omega)
      rw [u_lt] at h3 h4
      have := congrArg UInt64.toNat he
      omega
  · rintro ⟨hk, he⟩
    rw [← he]; exact List.getElem_mem hk
theorem pk_next {X Y : List UInt64} {has : Bool} {i : Nat} (hi : i < X.length) {b : Bool} (hb : decide (X[i] ∈ Y) = b) : pickR (X.take (i + 1)) Y has = pickR (X.take i) Y has ++ if b = has then [X[i]] else [] := by
  unfold pickR
  rw [List.take_add_one, List.filter_append, List.getElem?_eq_getElem hi]
  congr 1
  subst hb
  by_cases h : decide (X[i] ∈ Y) = has
  · rw [if_pos h]; simp [h]
  · rw [if_neg h]; simp [h]
theorem pickR_len (X Y : List UInt64) (has : Bool) : (pickR X Y has).length ≤ X.length := List.length_filter_le _ _
/-- what stands at the outer loop -/
structure Pk (w wr : World) (X Y : List UInt64) (has : Bool) (v : Value) (i k : Nat) : Prop where
  row : RowE 30 U6 wr (fun q => w.heap.size ≤ q) v (pickR (X.take i) Y has)
  x : Ext w wr
  lo : ∀ j (hj : j < Y.length), j < k → ∀ i' (hi : i' < X.length), i ≤ i' → Y[j] < X[i']

set_option maxRecDepth 100000 in
set_option maxHeartbeats 16000000 in
theorem rpick_any (w : World) (va vb : Value) (A B : List UInt64) (has : Bool) (hA : Sl U6 w va A) (hB : Sl U6 w vb B) (hla : A.length ≤ 17592186044416) (hlb : B.length ≤ 17592186044416) :
    Calls Tryz.prog 36 #[va, vb, .bool has] w fun x w' => ∃ u, x = .returned u ∧ RowE 30 U6 w' (fun q => w.heap.size ≤ q) u (pickR (setL A) (setL B) has) ∧ Ext w w' := by
  have h1 := rset_any _ w va A (Nat.le_refl _) hla hA
  have h2 := fun w1 (hx : Ext w w1) => rset_any _ w1 vb B (Nat.le_refl _) hlb (hB.ext hx)
  have rX : Hid (Rises (setL A)) := rises_setL A
  have rY : Hid (Rises (setL B)) := rises_setL B
  have hxl : (setL A).length ≤ 17592186044416 := Nat.le_trans (setL_len A) hla
  have hyl : (setL B).length ≤ 17592186044416 := Nat.le_trans (setL_len B) hlb
  obtain ⟨a, na, ca, rfl, _⟩ := hA.shape
  obtain ⟨b, nb, cb, rfl, _⟩ := hB.shape
  generalize setL A = X at *
  generalize setL B = Y at *
  clear hA hB
  have mixed := (by kernel_rfl : Tryz.prog.follows Departure.mixedOrders = true)
  go_enter Tryz.func36, Tryz.ntmps36
  go_wp2_with fail
  go_at_call 47
  refine h1.mono ?_
  rintro _ w1 ⟨u1, rfl, r1, x1⟩
  have s1 := r1.sl
  obtain ⟨ax, nx, cx, rfl, hnx⟩ := s1.shape
  clear h1 r1
  go_wp2_with fail
  go_at_call 47
  refine (h2 _ x1).mono ?_
  rintro _ w2 ⟨u2, rfl, r2, x2⟩
  have s2 := r2.sl
  obtain ⟨ay, ny, cy, rfl, hny⟩ := s2.shape
  have sX : Hid (Sl U6 w2 (.slice ax nx cx) X) := s1.ext x2
  have sY : Hid (Sl U6 w2 (.slice ay ny cy) Y) := s2
  have x02 : Ext w w2 := x1.trans x2
  have hcx := s1.len.2.1
  have hcy := s2.len.2.1
  have hnxl : nx ≤ 17592186044416 := by have := hnx.out; omega
  have hnyl : ny ≤ 17592186044416 := by have := hny.out; omega
  clear h2 r2 s1 s2 x1 x2 hxl hyl
  go_wp2
  go_loopw [9, 10, 11] (fun x9 x10 x11 wr => ∃ (i k : Nat) (a9 : Option Addr) (n9 c9 : Nat), i ≤ nx ∧ k ≤ ny ∧ x11 = .int .i64 i ∧ x10 = .int .i64 k ∧ x9 = .slice a9 n9 c9 ∧ Hid (Pk w2 wr X Y has (.slice a9 n9 c9) i k)) (fun _ _ x11 _ => nx - (intOf x11).toNat)
  case atStart => exact ⟨0, 0, none, 0, 0, Nat.zero_le _, Nat.zero_le _, rfl, rfl, rfl, row_nil _ _ _ _, Ext.refl _, fun j _ h => by omega⟩
  case round =>
    obtain ⟨i, k, a9, n9, c9, hi, hk, rfl, rfl, rfl, hP⟩ := hrel
    by_cases hlt : i < nx
    · have hli : (i : Int) < (nx : Int) := by omega
      have hiX : i < X.length := by have := hnx.out; omega
      obtain ⟨gx, ox, rfl, cX⟩ := sX.out.at i hiX
      have hiXh : Hid (i < X.length) := hiX
      obtain ⟨x, hx⟩ : ∃ x, X[i]'hiXh.out = x := ⟨_, rfl⟩
      have hxh : Hid (X[i]'hiXh.out = x) := hx
      rw [hx] at cX
      unfold U6 at cX
      clear hx hiX
      go_wp2
      go_loopw [10] (fun x10 wr => ∃ k : Nat, k ≤ ny ∧ x10 = .int .i64 k ∧ Hid (Pk w2 wr X Y has (.slice a9 n9 c9) i k)) (fun x10 _ => ny - (intOf x10).toNat)
      case atStart => exact ⟨k, hk, rfl, hP.out⟩
      case round =>
        clear hP hk
        obtain ⟨k, hk, rfl, hP⟩ := hrel
        have cX1 := hP.out.x.cell cX
        have hlen : (pickR (X.take i) Y has).length ≤ 17592186044416 := by have := pickR_len (X.take i) Y has; simp at this; omega
        have hn9 : n9 = (pickR (X.take i) Y has).length := hP.out.row.sl.len.1
        have hn9b : n9 ≤ 17592186044416 := by omega
        have hlenh : Hid ((pickR (X.take i) Y has).length ≤ 17592186044416) := hlen
        clear hlen hn9
        by_cases hkl : k < ny
        · have hkY : k < Y.length := by have := hny.out; omega
          obtain ⟨gy, oy, rfl, cY⟩ := sY.out.at k hkY
          have hkYh : Hid (k < Y.length) := hkY
          obtain ⟨y, hy⟩ : ∃ y, Y[k]'hkYh.out = y := ⟨_, rfl⟩
          have hyh : Hid (Y[k]'hkYh.out = y) := hy
          rw [hy] at cY
          unfold U6 at cY
          clear hy hkY
          have cY1 := hP.out.x.cell cY
          have hkd : decide (k < ny) = true := decide_eq_true hkl
          have hki : (k : Int) < (ny : Int) := by omega
          by_cases hyx : y < x
          · have hlt1 : (y.toNat : Int) < (x.toNat : Int) := ltI hyx
            have hyxh : Hid (y < x) := hyx
            clear hyx
            go_wp2
            go_quiet (fail)
            go_wp2
            go_roundw
            case rel =>
              refine ⟨k + 1, hkl, by go_num, Row.ext hP.out.row ((Ext.refl _).drewN nq), hP.out.x.drewN nq, fun j hj hjk i' hi' hii => ?_⟩
              rcases Nat.lt_or_ge j k with h9 | h9
              · exact hP.out.lo j hj h9 i' hi' hii
              · obtain rfl : j = k := by omega
                rw [hyh.out]
                rcases Nat.eq_or_lt_of_le hii with e | e
                · have h5 := hyxh.out; rw [← hxh.out] at h5; simpa only [← e] using h5
                · have h5 := hyxh.out
                  rw [← hxh.out] at h5
                  exact u_trans h5 (rises_lt rX.out hiXh.out hi' e)
            case measure => simp [intOf]; omega
          · have hge1 : decide ((y.toNat : Int) < (x.toNat : Int)) = false := by have := geI hyx; simp only [decide_eq_false_iff_not]; omega
            have hge2 : decide (y.toNat < x.toNat) = false := by have := geI hyx; simp only [decide_eq_false_iff_not]; omega
            have hin : decide (X[i]'hiXh.out ∈ Y) = decide (y = x) := by
              rw [decide_eq_decide, pk_in rY.out hiXh.out (fun j hj hjk => hP.out.lo j hj hjk i hiXh.out (Nat.le_refl _)) (fun hk => by rw [hyh.out, hxh.out]; exact hyx)]
              exact ⟨fun ⟨_, e⟩ => by rw [← hyh.out, ← hxh.out]; exact e, fun e => ⟨hkYh.out, by rw [hyh.out, hxh.out]; exact e⟩⟩
            by_cases hex : y = x
            · have heq : ((y.toNat : Int) == (x.toNat : Int)) = true := by rw [hex]; exact beq_self_eq_true _
              rw [decide_eq_true hex] at hin
              have hnx2 : Hid (pickR (X.take (i + 1)) Y has = pickR (X.take i) Y has ++ if true = has then [X[i]'hiXh.out] else []) := pk_next hiXh.out hin
              clear hyx hex hin
              cases has
              · go_wp2
                go_quiet (fail)
                have xq : Ext wr (wr.drewN nq) := (Ext.refl wr).drewN nq
                have cX2 := xq.cell cX1
                have cY2 := xq.cell cY1
                generalize wr.drewN nq = w5 at *
                go_wp2
                go_quiet (fail)
                go_wp2
                go_roundw
                case rel =>
                  refine ⟨i + 1, k, a9, n9, c9, by omega, by omega, by go_num, rfl, rfl, ?_, (hP.out.x.trans xq).drewN nq, fun j hj hjk i' hi' hii => hP.out.lo j hj hjk i' hi' (by omega)⟩
                  rw [hnx2.out, if_neg (by decide), List.append_nil]
                  exact Row.ext hP.out.row (xq.drewN nq)
                case measure => simp [intOf]; omega
              · go_wp2
                go_quiet (fail)
                have xq : Ext wr (wr.drewN nq) := (Ext.refl wr).drewN nq
                have cX2 := xq.cell cX1
                have cY2 := xq.cell cY1
                generalize wr.drewN nq = w5 at *
                go_wp2
                go_quiet (fail)
                go_wp2_with (at_builtin; refine Hid.out ?_)
                obtain ⟨w9, a9', c9', hr, hp⟩ := push_row ((hP.out.x.trans xq).drewN nq) (Row.ext hP.out.row (xq.drewN nq)) x 50 (by have := hlenh.out; omega)
                refine Lib.wpList_append_run _ rfl _ _ _ _ rfl _ _ rfl rfl _ _ hr ?_
                clear hr
                go_wp2
                go_roundw
                case rel =>
                  refine ⟨i + 1, k, a9', n9 + 1, c9', by omega, by omega, by go_num, rfl, rfl, ?_, hp.out.2.1, fun j hj hjk i' hi' hii => hP.out.lo j hj hjk i' hi' (by omega)⟩
                  rw [hnx2.out, hxh.out]
                  simp only [if_true]
                  exact hp.out.1
                case measure => simp [intOf]; omega
            · have heq : ((y.toNat : Int) == (x.toNat : Int)) = false := by simpa using neI hex
              rw [decide_eq_false hex] at hin
              have hnx2 : Hid (pickR (X.take (i + 1)) Y has = pickR (X.take i) Y has ++ if false = has then [X[i]'hiXh.out] else []) := pk_next hiXh.out hin
              clear hyx hex hin
              cases has
              · go_wp2
                go_quiet (fail)
                have xq : Ext wr (wr.drewN nq) := (Ext.refl wr).drewN nq
                have cX2 := xq.cell cX1
                have cY2 := xq.cell cY1
                generalize wr.drewN nq = w5 at *
                go_wp2
                go_quiet (fail)
                go_wp2_with (at_builtin; refine Hid.out ?_)
                obtain ⟨w9, a9', c9', hr, hp⟩ := push_row ((hP.out.x.trans xq).drewN nq) (Row.ext hP.out.row (xq.drewN nq)) x 50 (by have := hlenh.out; omega)
                refine Lib.wpList_append_run _ rfl _ _ _ _ rfl _ _ rfl rfl _ _ hr ?_
                clear hr
                go_wp2
                go_roundw
                case rel =>
                  refine ⟨i + 1, k, a9', n9 + 1, c9', by omega, by omega, by go_num, rfl, rfl, ?_, hp.out.2.1, fun j hj hjk i' hi' hii => hP.out.lo j hj hjk i' hi' (by omega)⟩
                  rw [hnx2.out, hxh.out]
                  simp only [if_true]
                  exact hp.out.1
                case measure => simp [intOf]; omega
              · go_wp2
                go_quiet (fail)
                have xq : Ext wr (wr.drewN nq) := (Ext.refl wr).drewN nq
                have cX2 := xq.cell cX1
                have cY2 := xq.cell cY1
                generalize wr.drewN nq = w5 at *
                go_wp2
                go_quiet (fail)
                go_wp2
                go_roundw
                case rel =>
                  refine ⟨i + 1, k, a9, n9, c9, by omega, by omega, by go_num, rfl, rfl, ?_, (hP.out.x.trans xq).drewN nq, fun j hj hjk i' hi' hii => hP.out.lo j hj hjk i' hi' (by omega)⟩
                  rw [hnx2.out, if_neg (by decide), List.append_nil]
                  exact Row.ext hP.out.row (xq.drewN nq)
                case measure => simp [intOf]; omega
        · obtain rfl : k = ny := by omega
          have hin : decide (X[i]'hiXh.out ∈ Y) = false := by
            rw [decide_eq_false_iff_not, pk_in rY.out hiXh.out (fun j hj hjk => hP.out.lo j hj hjk i hiXh.out (Nat.le_refl _)) (fun hk => by have := hny.out; omega)]
            rintro ⟨h9, _⟩
            have := hny.out; omega
          have hnx2 : Hid (pickR (X.take (i + 1)) Y has = pickR (X.take i) Y has ++ if false = has then [X[i]'hiXh.out] else []) := pk_next hiXh.out hin
          clear hin
          cases has
          · go_wp2
            go_quiet (fail)
            have xq : Ext wr (wr.drewN nq) := (Ext.refl wr).drewN nq
            have cX2 := xq.cell cX1
            generalize wr.drewN nq = w5 at *
            go_wp2
            go_quiet (fail)
            go_wp2_with (at_builtin; refine Hid.out ?_)
            obtain ⟨w9, a9', c9', hr, hp⟩ := push_row ((hP.out.x.trans xq).drewN nq) (Row.ext hP.out.row (xq.drewN nq)) x 50 (by have := hlenh.out; omega)
            refine Lib.wpList_append_run _ rfl _ _ _ _ rfl _ _ rfl rfl _ _ hr ?_
            clear hr
            go_wp2
            go_roundw
            case rel =>
              refine ⟨i + 1, k, a9', n9 + 1, c9', by omega, by omega, by go_num, rfl, rfl, ?_, hp.out.2.1, fun j hj hjk i' hi' hii => hP.out.lo j hj hjk i' hi' (by omega)⟩
              rw [hnx2.out, hxh.out]
              simp only [if_true]
              exact hp.out.1
            case measure => simp [intOf]; omega
          · go_wp2
            go_quiet (fail)
            have xq : Ext wr (wr.drewN nq) := (Ext.refl wr).drewN nq
            have cX2 := xq.cell cX1
            generalize wr.drewN nq = w5 at *
            go_wp2
            go_quiet (fail)
            go_wp2
            go_roundw
            case rel =>
              refine ⟨i + 1, k, a9, n9, c9, by omega, by omega, by go_num, rfl, rfl, ?_, (hP.out.x.trans xq).drewN nq, fun j hj hjk i' hi' hii => hP.out.lo j hj hjk i' hi' (by omega)⟩
              rw [hnx2.out, if_neg (by decide), List.append_nil]
              exact Row.ext hP.out.row (xq.drewN nq)
            case measure => simp [intOf]; omega
    · obtain rfl : i = nx := by omega
      have hR : Hid (RowE 30 U6 wr (fun q => w2.heap.size ≤ q) (.slice a9 n9 c9) (pickR X Y has)) := by
        have h9 := hP.out.row
        rw [List.take_of_length_le (by have := hnx.out; omega)] at h9
        exact h9
      have hxx := hP.out.x
      clear hP
      go_wp2
      go_ret
      exact ⟨_, rfl, RowE.to hR.out rfl rfl (fun q hq => Nat.le_trans x02.size hq), x02.trans hxx⟩
end Go.Proofs.YtpajkeljgifndaaGreat

/-
  The document's Meet; its Same, which only reads.
-/
namespace Go.Proofs.YtpajkeljgifndaaGreat
open Go.RowKit Go.Shelf

theorem rises_pickR {X : List UInt64} (h : Rises X) (Y : List UInt64) (b : Bool) : Rises (pickR X Y b) := List.Pairwise.sublist List.filter_sublist h
theorem mem_pickR (X Y : List UInt64) (z : UInt64) : z ∈ pickR X Y true ↔ z ∈ X ∧ z ∈ Y := by
  unfold pickR
  rw [List.mem_filter]
  simp
set_option maxRecDepth 100000 in
set_option maxHeartbeats 2000000 in
theorem rMeet_any (w : World) (va vb : Value) (A B : List UInt64) (hla : A.length ≤ 17592186044416) (hlb : B.length ≤ 17592186044416) (ha : Sl U6 w va A) (hb : Sl U6 w vb B) :
    Calls Tryz.prog 28 #[va, vb] w fun x w' => ∃ u, x = .returned u ∧ RowE 30 U6 w' (fun q => w.heap.size ≤ q) u (pickR (setL A) (setL B) true) ∧ Ext w w' := by
  have h := rpick_any w va vb A B true ha hb hla hlb
  obtain ⟨a0, n0, c0, rfl, _⟩ := ha.shape
  obtain ⟨b0, m0, d0, rfl, _⟩ := hb.shape
  clear ha hb
  go_enter Tryz.func28, Tryz.ntmps28
  go_wp2_with fail
  go_at_call 36
  refine h.mono ?_
  rintro _ w2 ⟨u2, rfl, r2, x2⟩
  go_wp2_with fail
  go_ret
  exact ⟨_, rfl, r2, x2⟩

/-- nothing but draws lies between -/
def Drw (w w' : World) : Prop := ∃ m, w' = w.drewN m
theorem Drw.refl (w : World) : Drw w w := ⟨0, rfl⟩
theorem Drw.drewN {w w' : World} (h : Drw w w') (q : Nat) : Drw w (w'.drewN q) := by
  obtain ⟨m, rfl⟩ := h
  exact ⟨m + q, by rw [World.drewN_drewN]⟩
theorem Drw.ext {w w' : World} (h : Drw w w') : Ext w w' := by
  obtain ⟨m, rfl⟩ := h
  exact (Ext.refl w).drewN m
theorem Drw.cell {w w' : World} (h : Drw w w') {p : Addr} {u : Value} (hc : w.cell? p = some u) : w'.cell? p = some u := h.ext.cell hc

set_option maxRecDepth 100000 in
set_option maxHeartbeats 4000000 in
theorem Same_q (w : World) (va vb : Value) (la lb : List UInt64) (ha : Sl U6 w va la) (hb : Sl U6 w vb lb) :
    Calls Tryz.prog 19 #[va, vb] w fun x w' => x = .returned (.bool (decide (la = lb))) ∧ Drw w w' := by
  have hah : Hid (Sl U6 w va la) := ha
  have hbh : Hid (Sl U6 w vb lb) := hb
  obtain ⟨aa, na, ca, rfl, hna⟩ := ha.shape
  obtain ⟨ab, nb, cb, rfl, hnb⟩ := hb.shape
  have h1 := ha.len
  have h2 := hb.len
  have hca : na ≤ ca := h1.2.1
  have hcb : nb ≤ cb := h2.2.1
  have hm : na ≤ 9223372036854775807 := by have := h1.2.2; unfold maxLen at this; omega
  clear ha hb h1 h2
  obtain ⟨r, hr⟩ : ∃ r, decide (la = lb) = r := ⟨_, rfl⟩
  have hrh : Hid (decide (la = lb) = r) := hr
  rw [hr]
  clear hr
  by_cases hnn : na = nb
  · subst hnn
    have hll : Hid (la.length = lb.length) := by show _ = _; rw [← hna.out, hnb.out]
    go_enter Tryz.func19, Tryz.ntmps19
    go_wp2
    go_loopw [5] (fun i wr => ∃ k : Nat, k ≤ na ∧ i = .int .i64 k ∧ Hid (∀ j (h : j < la.length) (h' : j < lb.length), j < k → la[j] = lb[j]) ∧ Drw w wr) (fun i _ => na - (intOf i).toNat)
    case atStart => exact ⟨0, Nat.zero_le _, rfl, fun j _ _ h => by omega, Drw.refl w⟩
    case round =>
      obtain ⟨k, hk, rfl, heq, hx⟩ := hrel
      by_cases hlt : k < na
      · have hka : k < la.length := by have := hna.out; omega
        have hkb : k < lb.length := by have := hll.out; omega
        obtain ⟨g, o, rfl, c1⟩ := hah.out.at k hka
        obtain ⟨g2, o2, rfl, c2⟩ := hbh.out.at k hkb
        have c1' := hx.cell c1
        have c2' := hx.cell c2
        unfold U6 at c1' c2'
        obtain ⟨A, hA⟩ : ∃ A, la[k] = A := ⟨_, rfl⟩
        obtain ⟨B, hB⟩ : ∃ B, lb[k] = B := ⟨_, rfl⟩
        have hAh : Hid (la[k] = A) := hA
        have hBh : Hid (lb[k] = B) := hB
        rw [hA] at c1'
        rw [hB] at c2'
        clear hA hB c1 c2
        by_cases hAB : A = B
        · have hd : ((A.toNat : Int) != (B.toNat : Int)) = false := by rw [hAB]; simp
          have hABh : Hid (A = B) := hAB
          clear hAB
          go_wp2
          go_quiet (fail)
          go_wp2
          go_roundw
          case rel => exact ⟨k + 1, by omega, by go_num, fun j h h' hj => by
            rcases Nat.lt_or_ge j k with h9 | h9
            · exact heq.out j h h' h9
            · obtain rfl : j = k := by omega
              rw [hAh.out, hBh.out]; exact hABh.out, hx.drewN nq⟩
          case measure => simp [intOf]; omega
        · have hd : ((A.toNat : Int) != (B.toNat : Int)) = true := by simpa using neI hAB
          have hABh : Hid (A ≠ B) := hAB
          clear hAB
          go_wp2
          go_quiet (fail)
          go_wp2
          go_ret
          refine ⟨?_, hx.drewN nq⟩
          rw [← hrh.out, decide_eq_false (show ¬ la = lb from fun e => hABh.out (by rw [← hAh.out, ← hBh.out]; simp only [e]))]
          rfl
      · go_wp2
        go_ret
        refine ⟨?_, hx⟩
        rw [← hrh.out, decide_eq_true (show la = lb from List.ext_getElem hll.out (fun j h h' => heq.out j h h' (by have := hna.out; omega)))]
        rfl
  · have hd : ((na : Int) != (nb : Int)) = true := by simpa using (show (na : Int) ≠ (nb : Int) by omega)
    have hll : Hid (¬ la = lb) := fun e => hnn (by rw [hna.out, hnb.out, e])
    clear hnn
    go_enter Tryz.func19, Tryz.ntmps19
    go_wp2
    go_ret
    refine ⟨?_, Drw.refl _⟩
    rw [← hrh.out, decide_eq_false hll.out]
    rfl

theorem same_q (w : World) (va vb : Value) (l : List UInt64) (ha : Sl U6 w va l) (hb : Sl U6 w vb l) : Calls Tryz.prog 19 #[va, vb] w fun x w' => x = .returned (.bool true) ∧ ∃ m, w' = w.drewN m := by
  have h := Same_q w va vb l l ha hb
  rwa [decide_eq_true rfl] at h

end Go.Proofs.YtpajkeljgifndaaGreat
