/-
  Pairs in the order of their keys, plain: rows in order, trees, and that a tree answers as its row does.
-/
import Derived.Laws.EntriesVeiled
namespace Go.Proofs.Ytbgoddcpgogpdaa

variable {α β : Type}

/-- an order: what the document asks of it -/
structure Ordr (c : α → α → Int) : Prop where
  same : ∀ a, c a a = 0
  anti : ∀ a b, c a b < 0 ↔ 0 < c b a
  trans : ∀ a b d, c a b ≤ 0 → c b d ≤ 0 → c a d ≤ 0
theorem Ordr.zero {c : α → α → Int} (h : Ordr c) {a b : α} (e : c a b = 0) : c b a = 0 := by
  have h1 := h.anti a b
  have h2 := h.anti b a
  omega
theorem Ordr.lt_le {c : α → α → Int} (h : Ordr c) {a b d : α} (e : c a b < 0) (f : c b d ≤ 0) : c a d < 0 := by
  have h1 := h.trans a b d (by omega) f
  by_cases h2 : c a d = 0
  · have h3 := h.zero h2
    have h4 := h.trans b d a f (by omega)
    have h5 := h.anti a b
    omega
  · omega
theorem Ordr.le_lt {c : α → α → Int} (h : Ordr c) {a b d : α} (e : c a b ≤ 0) (f : c b d < 0) : c a d < 0 := by
  have h1 := h.trans a b d e (by omega)
  by_cases h2 : c a d = 0
  · have h3 := h.zero h2
    have h4 := h.trans d a b (by omega) e
    have h5 := h.anti b d
    omega
  · omega
theorem Ordr.lt_lt {c : α → α → Int} (h : Ordr c) {a b d : α} (e : c a b < 0) (f : c b d < 0) : c a d < 0 := h.lt_le e (by omega)

/-- rows in order, what the calls do to them -/
def Srt (c : α → α → Int) (l : List (α × β)) : Prop := l.Pairwise fun p q => c p.1 q.1 < 0
def putL (c : α → α → Int) (k : α) (v : β) : List (α × β) → List (α × β)
  | [] => [(k, v)]
  | p :: t => if c p.1 k < 0 then p :: putL c k v t else if c p.1 k = 0 then (k, v) :: t else (k, v) :: p :: t
def delL (c : α → α → Int) (k : α) : List (α × β) → List (α × β)
  | [] => []
  | p :: t => if c p.1 k < 0 then p :: delL c k t else if c p.1 k = 0 then t else p :: t
def getL (c : α → α → Int) (k : α) : List (α × β) → Option (α × β)
  | [] => none
  | p :: t => if c p.1 k < 0 then getL c k t else if c p.1 k = 0 then some p else none
def rankL (c : α → α → Int) (k : α) : List (α × β) → Nat
  | [] => 0
  | p :: t => if c p.1 k < 0 then rankL c k t + 1 else 0
theorem putL_behind (c : α → α → Int) (k : α) (v : β) (L M : List (α × β)) (h : ∀ p ∈ L, c p.1 k < 0) : putL c k v (L ++ M) = L ++ putL c k v M := by
  induction L with
  | nil => rfl
  | cons p t ih =>
    have h1 := h p (by simp)
    simp only [List.cons_append, putL, if_pos h1]
    rw [ih fun q hq => h q (by simp [hq])]
theorem putL_ahead (c : α → α → Int) (k : α) (v : β) (L : List (α × β)) (p : α × β) (M : List (α × β)) (h : 0 < c p.1 k) : putL c k v (L ++ p :: M) = putL c k v L ++ p :: M := by
  induction L with
  | nil =>
    simp only [List.nil_append, putL]
    rw [if_neg (by omega), if_neg (by omega)]
    rfl
  | cons q t ih =>
    simp only [List.cons_append, putL]
    split
    · rw [ih]; rfl
    · split <;> rfl
theorem delL_behind (c : α → α → Int) (k : α) (L M : List (α × β)) (h : ∀ p ∈ L, c p.1 k < 0) : delL c k (L ++ M) = L ++ delL c k M := by
  induction L with
  | nil => rfl
  | cons p t ih =>
    have h1 := h p (by simp)
    simp only [List.cons_append, delL, if_pos h1]
    rw [ih fun q hq => h q (by simp [hq])]
theorem delL_ahead (c : α → α → Int) (k : α) (L : List (α × β)) (p : α × β) (M : List (α × β)) (h : 0 < c p.1 k) : delL c k (L ++ p :: M) = delL c k L ++ p :: M := by
  induction L with
  | nil =>
    simp only [List.nil_append, delL]
    rw [if_neg (by omega), if_neg (by omega)]
  | cons q t ih =>
    simp only [List.cons_append, delL]
    split
    · rw [ih]; rfl
    · split <;> rfl
theorem getL_behind (c : α → α → Int) (k : α) (L M : List (α × β)) (h : ∀ p ∈ L, c p.1 k < 0) : getL c k (L ++ M) = getL c k M := by
  induction L with
  | nil => rfl
  | cons p t ih =>
    have h1 := h p (by simp)
    simp only [List.cons_append, getL, if_pos h1]
    rw [ih fun q hq => h q (by simp [hq])]
theorem getL_ahead (c : α → α → Int) (k : α) (L : List (α × β)) (p : α × β) (M : List (α × β)) (h : 0 < c p.1 k) : getL c k (L ++ p :: M) = getL c k L := by
  induction L with
  | nil =>
    simp only [List.nil_append, getL]
    rw [if_neg (by omega), if_neg (by omega)]
  | cons q t ih =>
    simp only [List.cons_append, getL]
    split
    · rw [ih]
    · rfl
theorem rankL_behind (c : α → α → Int) (k : α) (L M : List (α × β)) (h : ∀ p ∈ L, c p.1 k < 0) : rankL c k (L ++ M) = L.length + rankL c k M := by
  induction L with
  | nil => simp
  | cons p t ih =>
    have h1 := h p (by simp)
    simp only [List.cons_append, rankL, if_pos h1]
    rw [ih fun q hq => h q (by simp [hq])]
    simp; omega
theorem rankL_ahead (c : α → α → Int) (k : α) (L : List (α × β)) (p : α × β) (M : List (α × β)) (h : ¬ c p.1 k < 0) : rankL c k (L ++ p :: M) = rankL c k L := by
  induction L with
  | nil =>
    simp only [List.nil_append, rankL]
    rw [if_neg h]
  | cons q t ih =>
    simp only [List.cons_append, rankL]
    split
    · rw [ih]
    · rfl
theorem rankL_le (c : α → α → Int) (k : α) (l : List (α × β)) : rankL c k l ≤ l.length := by
  induction l with
  | nil => simp [rankL]
  | cons p t ih =>
    simp only [rankL, List.length_cons]
    split <;> omega

/-- a tree of pairs -/
inductive Tr (α β : Type) where
  | nil
  | nd (l : Tr α β) (k : α) (v : β) (r : Tr α β)
namespace Tr
def cnt : Tr α β → Nat
  | nil => 0
  | nd l _ _ r => l.cnt + r.cnt + 1
def row : Tr α β → List (α × β)
  | nil => []
  | nd l k v r => l.row ++ (k, v) :: r.row
theorem row_len (t : Tr α β) : t.row.length = t.cnt := by
  induction t with
  | nil => rfl
  | nd l k v r h1 h2 => simp [row, cnt, h1, h2]; omega
/-- s: the first one stands at the high side -/
def mk (s : Bool) (k : α) (v : β) (a b : Tr α β) : Tr α β := if s then nd b k v a else nd a k v b
/-- the kid at the high side, at the low one -/
def kid (s : Bool) : Tr α β → Tr α β
  | nil => nil
  | nd l _ _ r => if s then r else l
theorem mk_kids (s : Bool) (l : Tr α β) (k : α) (v : β) (r : Tr α β) : mk s k v (kid s (nd l k v r)) (kid (!s) (nd l k v r)) = nd l k v r := by
  cases s <;> rfl
theorem cnt_mk (s : Bool) (k : α) (v : β) (a b : Tr α β) : (mk s k v a b).cnt = a.cnt + b.cnt + 1 := by
  cases s <;> simp [mk, cnt]; omega
def wt (t : Tr α β) : Nat := t.cnt + 1
def level (s : Bool) (k : α) (v : β) (a b : Tr α β) : Tr α β :=
  if a.wt ≤ 3 * b.wt then mk s k v a b
  else match a with
    | nil => mk s k v a b
    | nd al ak av ar =>
      if (kid (!s) (nd al ak av ar)).wt < 2 * (kid s (nd al ak av ar)).wt then mk s ak av (kid s (nd al ak av ar)) (mk s k v (kid (!s) (nd al ak av ar)) b)
      else match kid (!s) (nd al ak av ar) with
        | nil => mk s k v a b
        | nd il ik iv ir => mk s ik iv (mk s ak av (kid s (nd al ak av ar)) (kid s (nd il ik iv ir))) (mk s k v (kid (!s) (nd il ik iv ir)) b)
theorem level_one (s : Bool) (k : α) (v : β) (xl : Tr α β) (xk : α) (xv : β) (xr y : Tr α β) (h1 : ¬ (nd xl xk xv xr).wt ≤ 3 * y.wt) (h2 : (kid (!s) (nd xl xk xv xr)).wt < 2 * (kid s (nd xl xk xv xr)).wt) : level s k v (nd xl xk xv xr) y = mk s xk xv (kid s (nd xl xk xv xr)) (mk s k v (kid (!s) (nd xl xk xv xr)) y) := by
  unfold level
  rw [if_neg h1]
  dsimp only
  rw [if_pos h2]
theorem level_two (s : Bool) (k : α) (v : β) (xl : Tr α β) (xk : α) (xv : β) (xr y il : Tr α β) (ik : α) (iv : β) (ir : Tr α β) (h1 : ¬ (nd xl xk xv xr).wt ≤ 3 * y.wt) (h2 : ¬ (kid (!s) (nd xl xk xv xr)).wt < 2 * (kid s (nd xl xk xv xr)).wt) (h3 : kid (!s) (nd xl xk xv xr) = nd il ik iv ir) :
    level s k v (nd xl xk xv xr) y = mk s ik iv (mk s xk xv (kid s (nd xl xk xv xr)) (kid s (nd il ik iv ir))) (mk s k v (kid (!s) (nd il ik iv ir)) y) := by
  unfold level
  rw [if_neg h1]
  dsimp only
  rw [if_neg h2, h3]
theorem row_level (s : Bool) (k : α) (v : β) (a b : Tr α β) : (level s k v a b).row = (mk s k v a b).row := by
  unfold level
  split
  · rfl
  · cases a with
    | nil => rfl
    | nd al ak av ar =>
      dsimp only
      split
      · cases s <;> simp [mk, kid, row]
      · generalize hi : kid (!s) (nd al ak av ar) = i
        cases i with
        | nil => rfl
        | nd il ik iv ir =>
          cases s <;> simp only [kid, Bool.not_true, Bool.not_false, if_true, if_false, Bool.false_eq_true] at hi <;> subst hi <;> simp [mk, kid, row]
theorem cnt_level (s : Bool) (k : α) (v : β) (a b : Tr α β) : (level s k v a b).cnt = a.cnt + b.cnt + 1 := by
  rw [← row_len, row_level, row_len, cnt_mk]
def put (c : α → α → Int) (k : α) (v : β) : Tr α β → Tr α β
  | nil => nd nil k v nil
  | nd l k' v' r => if c k k' = 0 then nd l k v r else if c k k' < 0 then level false k' v' (put c k v l) r else level true k' v' (put c k v r) l
theorem cnt_put (c : α → α → Int) (k : α) (v : β) (t : Tr α β) : (put c k v t).cnt ≤ t.cnt + 1 := by
  induction t with
  | nil => simp [put, cnt]
  | nd l k' v' r h1 h2 =>
    unfold put
    split
    · simp [cnt]
    · split
      · rw [cnt_level]; simp only [cnt]; omega
      · rw [cnt_level]; simp only [cnt]; omega
theorem srt_parts {c : α → α → Int} {l : Tr α β} {k : α} {v : β} {r : Tr α β} (h : Srt c (nd l k v r).row) : Srt c l.row ∧ Srt c r.row ∧ (∀ p ∈ l.row, c p.1 k < 0) ∧ (∀ p ∈ r.row, c k p.1 < 0) := by
  unfold Srt at h ⊢
  simp only [row, List.pairwise_append, List.pairwise_cons] at h
  exact ⟨h.1, h.2.1.2, fun p hp => h.2.2 p hp (k, v) (by simp), fun p hp => h.2.1.1 p hp⟩
theorem row_put {c : α → α → Int} (hc : Ordr c) (k : α) (v : β) (t : Tr α β) (h : Srt c t.row) : (t.put c k v).row = putL c k v t.row := by
  induction t with
  | nil => rfl
  | nd l k' v' r h1 h2 =>
    obtain ⟨s1, s2, s3, s4⟩ := srt_parts h
    unfold put
    split
    · rename_i e
      have e' := hc.zero e
      have : ∀ p ∈ l.row, c p.1 k < 0 := fun p hp => hc.lt_le (s3 p hp) (by omega)
      simp only [row]
      rw [putL_behind c k v _ _ this]
      simp only [putL]
      rw [if_neg (by omega), if_pos e']
    · split
      · rename_i e1 e
        rw [row_level]
        simp only [mk, row, Bool.false_eq_true, if_false]
        rw [h1 s1, putL_ahead c k v _ _ _ ((hc.anti _ _).1 e)]
      · rename_i e1 e2
        have e : c k' k < 0 := (hc.anti _ _).2 (by omega)
        rw [row_level]
        simp only [mk, row, if_true]
        have : ∀ p ∈ l.row, c p.1 k < 0 := fun p hp => hc.lt_lt (s3 p hp) e
        rw [h2 s2, putL_behind c k v _ _ this]
        simp only [putL]
        rw [if_pos e]
/-- the outmost node at a side (its pair), and the others -/
def pluck (s : Bool) : Tr α β → Option ((α × β) × Tr α β)
  | nil => none
  | nd l k v r => if s then match pluck s r with
      | none => some ((k, v), l)
      | some (p, t) => some (p, level false k v l t)
    else match pluck s l with
      | none => some ((k, v), r)
      | some (p, t) => some (p, level true k v r t)
theorem pluck_none (s : Bool) (t : Tr α β) : pluck s t = none ↔ t = nil := by
  cases t with
  | nil => simp [pluck]
  | nd l k v r =>
    simp only [pluck, reduceCtorEq, iff_false]
    split <;> split <;> simp
theorem row_pluck (s : Bool) (t : Tr α β) (p : α × β) (u : Tr α β) (h : pluck s t = some (p, u)) : t.row = if s then u.row ++ [p] else p :: u.row := by
  induction t generalizing p u with
  | nil => simp [pluck] at h
  | nd l k v r h1 h2 =>
    cases s
    · simp only [pluck, Bool.false_eq_true, if_false] at h
      cases hp : pluck false l with
      | none =>
        rw [hp] at h
        cases h
        rw [(pluck_none _ _).1 hp]
        rfl
      | some q =>
        obtain ⟨q, t⟩ := q
        rw [hp] at h
        cases h
        have := h1 _ _ hp
        simp only [Bool.false_eq_true, if_false] at this ⊢
        rw [row_level]
        simp [row, mk, this]
    · simp only [pluck, if_true] at h
      cases hp : pluck true r with
      | none =>
        rw [hp] at h
        cases h
        rw [(pluck_none _ _).1 hp]
        rfl
      | some q =>
        obtain ⟨q, t⟩ := q
        rw [hp] at h
        cases h
        have := h2 _ _ hp
        simp only [if_true] at this ⊢
        rw [row_level]
        simp [row, mk, this]
theorem cnt_pluck (s : Bool) (t : Tr α β) (q : (α × β) × Tr α β) (h : pluck s t = some q) : q.2.cnt + 1 = t.cnt := by
  obtain ⟨p, u⟩ := q
  have := congrArg List.length (row_pluck s t p u h)
  rw [row_len] at this
  cases s <;> simp [row_len] at this <;> exact this.symm
/-- the kids of a node put together -/
def without (l r : Tr α β) : Tr α β :=
  if l.cnt < r.cnt then match pluck false r with
    | none => nil
    | some (p, t) => mk true p.1 p.2 t l
  else match pluck true l with
    | none => nil
    | some (p, t) => mk false p.1 p.2 t r
theorem without_high {l r : Tr α β} {q : (α × β) × Tr α β} (h : l.cnt < r.cnt) (hp : pluck false r = some q) : without l r = mk true q.1.1 q.1.2 q.2 l := by
  unfold without
  rw [if_pos h, hp]
theorem without_low {l r : Tr α β} {q : (α × β) × Tr α β} (h : ¬ l.cnt < r.cnt) (hp : pluck true l = some q) : without l r = mk false q.1.1 q.1.2 q.2 r := by
  unfold without
  rw [if_neg h, hp]
theorem without_nil (r : Tr α β) (h : ¬ (nil : Tr α β).cnt < r.cnt) : without nil r = nil := by
  unfold without
  rw [if_neg h]
  rfl
theorem row_without (l r : Tr α β) : (without l r).row = l.row ++ r.row := by
  unfold without
  split
  · rename_i h
    cases hp : pluck false r with
    | none =>
      rw [(pluck_none _ _).1 hp] at h
      simp [cnt] at h
    | some q =>
      obtain ⟨q, t⟩ := q
      have := row_pluck _ _ _ _ hp
      simp only [Bool.false_eq_true, if_false] at this
      simp [mk, row, this]
  · rename_i h
    cases hp : pluck true l with
    | none =>
      rw [(pluck_none _ _).1 hp] at h ⊢
      cases r with
      | nil => rfl
      | nd a b d e => simp [cnt] at h
    | some q =>
      obtain ⟨q, t⟩ := q
      have := row_pluck _ _ _ _ hp
      simp only [if_true] at this
      simp [mk, row, this]
/-- whether there is a pair whose key is equal, by the way that del goes -/
def has (c : α → α → Int) (k : α) : Tr α β → Bool
  | nil => false
  | nd l k' _ r => if c k k' = 0 then true else if c k k' < 0 then has c k l else has c k r
def del (c : α → α → Int) (k : α) : Tr α β → Tr α β
  | nil => nil
  | nd l k' v' r => if c k k' = 0 then without l r
    else if c k k' < 0 then (if has c k l then level true k' v' r (del c k l) else nd l k' v' r)
    else (if has c k r then level false k' v' l (del c k r) else nd l k' v' r)
theorem del_nd (c : α → α → Int) (k : α) (l : Tr α β) (k' : α) (v' : β) (r : Tr α β) : del c k (nd l k' v' r) = if c k k' = 0 then without l r
    else if c k k' < 0 then (if has c k l then level true k' v' r (del c k l) else nd l k' v' r)
    else (if has c k r then level false k' v' l (del c k r) else nd l k' v' r) := rfl
theorem has_nd (c : α → α → Int) (k : α) (l : Tr α β) (k' : α) (v' : β) (r : Tr α β) : has c k (nd l k' v' r) = if c k k' = 0 then true else if c k k' < 0 then has c k l else has c k r := rfl
theorem cnt_without (l r : Tr α β) : (without l r).cnt = l.cnt + r.cnt := by
  rw [← row_len, row_without, List.length_append, row_len, row_len]
theorem cnt_del (c : α → α → Int) (k : α) (t : Tr α β) : (del c k t).cnt ≤ t.cnt := by
  induction t with
  | nil => exact Nat.le_refl _
  | nd l k' v' r h1 h2 =>
    rw [del_nd]
    split
    · rw [cnt_without]; simp only [cnt]; omega
    · split
      · split
        · rw [cnt_level]; simp only [cnt]; omega
        · exact Nat.le_refl _
      · split
        · rw [cnt_level]; simp only [cnt]; omega
        · exact Nat.le_refl _
theorem row_del {c : α → α → Int} (hc : Ordr c) (k : α) (t : Tr α β) (h : Srt c t.row) : (t.del c k).row = delL c k t.row ∧ (has c k t = false → delL c k t.row = t.row) := by
  induction t with
  | nil => exact ⟨rfl, fun _ => rfl⟩
  | nd l k' v' r h1 h2 =>
    obtain ⟨s1, s2, s3, s4⟩ := srt_parts h
    rw [del_nd, has_nd]
    split
    · rename_i e
      have e' := hc.zero e
      have : ∀ p ∈ l.row, c p.1 k < 0 := fun p hp => hc.lt_le (s3 p hp) (by omega)
      refine ⟨?_, fun h => by cases h⟩
      simp only [row]
      rw [delL_behind c k _ _ this, row_without]
      simp only [delL]
      rw [if_neg (by omega), if_pos e']
    · split
      · rename_i e1 e
        have e9 := delL_ahead c k l.row (k', v') r.row ((hc.anti _ _).1 e)
        simp only [row]
        rw [e9]
        refine ⟨?_, fun h => by rw [(h1 s1).2 h]⟩
        split
        · rw [row_level]
          simp only [mk, row, if_true]
          rw [(h1 s1).1]
        · rename_i e3
          simp only [row]
          rw [(h1 s1).2 (by simpa using e3)]
      · rename_i e1 e2
        have e : c k' k < 0 := (hc.anti _ _).2 (by omega)
        have : ∀ p ∈ l.row, c p.1 k < 0 := fun p hp => hc.lt_lt (s3 p hp) e
        have e9 : delL c k (l.row ++ (k', v') :: r.row) = l.row ++ (k', v') :: delL c k r.row := by
          rw [delL_behind c k _ _ this]
          simp only [delL]
          rw [if_pos e]
        simp only [row]
        rw [e9]
        refine ⟨?_, fun h => by rw [(h2 s2).2 h]⟩
        split
        · rw [row_level]
          simp only [mk, row, Bool.false_eq_true, if_false]
          rw [(h2 s2).1]
        · rename_i e3
          simp only [row]
          rw [(h2 s2).2 (by simpa using e3)]
def get (c : α → α → Int) (k : α) : Tr α β → Option (α × β)
  | nil => none
  | nd l k' v' r => if c k k' = 0 then some (k', v') else if c k k' < 0 then get c k l else get c k r
theorem get_row {c : α → α → Int} (hc : Ordr c) (k : α) (t : Tr α β) (h : Srt c t.row) : t.get c k = getL c k t.row := by
  induction t with
  | nil => rfl
  | nd l k' v' r h1 h2 =>
    obtain ⟨s1, s2, s3, s4⟩ := srt_parts h
    unfold get
    simp only [row]
    split
    · rename_i e
      have e' := hc.zero e
      have : ∀ p ∈ l.row, c p.1 k < 0 := fun p hp => hc.lt_le (s3 p hp) (by omega)
      rw [getL_behind c k _ _ this]
      simp only [getL]
      rw [if_neg (by omega), if_pos e']
    · split
      · rename_i e1 e
        rw [getL_ahead c k _ _ _ ((hc.anti _ _).1 e), h1 s1]
      · rename_i e1 e2
        have e : c k' k < 0 := (hc.anti _ _).2 (by omega)
        have : ∀ p ∈ l.row, c p.1 k < 0 := fun p hp => hc.lt_lt (s3 p hp) e
        rw [getL_behind c k _ _ this, h2 s2]
        simp only [getL]
        rw [if_pos e]
def rank (c : α → α → Int) (k : α) : Tr α β → Nat
  | nil => 0
  | nd l k' _ r => if c k' k < 0 then l.cnt + 1 + rank c k r else rank c k l
theorem rank_row {c : α → α → Int} (hc : Ordr c) (k : α) (t : Tr α β) (h : Srt c t.row) : t.rank c k = rankL c k t.row := by
  induction t with
  | nil => rfl
  | nd l k' v' r h1 h2 =>
    obtain ⟨s1, s2, s3, s4⟩ := srt_parts h
    unfold rank
    simp only [row]
    split
    · rename_i e
      have : ∀ p ∈ l.row, c p.1 k < 0 := fun p hp => hc.lt_lt (s3 p hp) e
      rw [rankL_behind c k _ _ this, h2 s2, row_len]
      simp only [rankL]
      rw [if_pos e]
      omega
    · rename_i e
      rw [rankL_ahead c k _ _ _ e, h1 s1]
theorem rank_le (c : α → α → Int) (k : α) (t : Tr α β) : t.rank c k ≤ t.cnt := by
  induction t with
  | nil => simp [rank]
  | nd l k' v' r h1 h2 =>
    simp only [rank, cnt]
    split <;> omega
/-- the pair at a place -/
def nth : Tr α β → Int → Option (α × β)
  | nil, _ => none
  | nd l k v r, i => if i < l.cnt then nth l i else if (l.cnt : Int) < i then nth r (i - (l.cnt + 1)) else some (k, v)
theorem nth_neg (t : Tr α β) (i : Int) (h : i < 0) : t.nth i = none := by
  induction t with
  | nil => rfl
  | nd l k v r h1 h2 =>
    unfold nth
    rw [if_pos (by omega), h1]
theorem nth_row (t : Tr α β) (i : Nat) : t.nth i = t.row[i]? := by
  induction t generalizing i with
  | nil => simp [nth, row]
  | nd l k v r h1 h2 =>
    have hl := row_len l
    unfold nth
    simp only [row]
    split
    · rename_i h
      rw [h1, List.getElem?_append_left (by omega)]
    · split
      · rename_i h h'
        rw [show (i : Int) - (l.cnt + 1) = ((i - (l.cnt + 1) : Nat) : Int) by omega, h2, List.getElem?_append_right (by omega)]
        rw [show i - l.row.length = (i - (l.cnt + 1)) + 1 by omega]
        rfl
      · rename_i h h'
        rw [List.getElem?_append_right (by omega)]
        rw [show i - l.row.length = 0 by omega]
        rfl
end Tr
theorem srt_put {c : α → α → Int} (hc : Ordr c) (k : α) (v : β) (l : List (α × β)) (h : Srt c l) : Srt c (putL c k v l) ∧ ∀ q ∈ putL c k v l, q = (k, v) ∨ q ∈ l := by
  induction l with
  | nil => simp [putL, Srt]
  | cons p t ih =>
    have h' : Srt c t := (List.pairwise_cons.1 h).2
    have h2 := (List.pairwise_cons.1 h).1
    obtain ⟨i1, i2⟩ := ih h'
    unfold putL
    split
    · rename_i e
      refine ⟨List.pairwise_cons.2 ⟨fun q hq => ?_, i1⟩, fun q hq => ?_⟩
      · rcases i2 q hq with rfl | hq
        · exact e
        · exact h2 q hq
      · rcases List.mem_cons.1 hq with rfl | hq
        · simp
        · rcases i2 q hq with rfl | hq
          · simp
          · simp [hq]
    · split
      · rename_i e1 e
        have e' := hc.zero e
        refine ⟨List.pairwise_cons.2 ⟨fun q hq => hc.le_lt (Int.le_of_eq e') (h2 q hq), h'⟩, fun q hq => ?_⟩
        rcases List.mem_cons.1 hq with rfl | hq
        · simp
        · simp [hq]
      · rename_i e1 e2
        have e : c k p.1 < 0 := (hc.anti _ _).2 (by omega)
        refine ⟨List.pairwise_cons.2 ⟨fun q hq => ?_, h⟩, fun q hq => ?_⟩
        · rcases List.mem_cons.1 hq with rfl | hq
          · exact e
          · exact hc.lt_lt e (h2 q hq)
        · rcases List.mem_cons.1 hq with rfl | hq
          · simp
          · exact .inr hq
theorem srt_del {c : α → α → Int} (k : α) (l : List (α × β)) (h : Srt c l) : Srt c (delL c k l) ∧ ∀ q ∈ delL c k l, q ∈ l := by
  induction l with
  | nil => simp [delL, Srt]
  | cons p t ih =>
    have h' : Srt c t := (List.pairwise_cons.1 h).2
    have h2 := (List.pairwise_cons.1 h).1
    obtain ⟨i1, i2⟩ := ih h'
    unfold delL
    split
    · refine ⟨List.pairwise_cons.2 ⟨fun q hq => h2 q (i2 q hq), i1⟩, fun q hq => ?_⟩
      rcases List.mem_cons.1 hq with rfl | hq
      · simp
      · simp [i2 q hq]
    · split
      · exact ⟨h', fun q hq => by simp [hq]⟩
      · exact ⟨h, fun q hq => hq⟩
theorem put_len (c : α → α → Int) (k : α) (v : β) (l : List (α × β)) : (putL c k v l).length = l.length + if (getL c k l).isSome then 0 else 1 := by
  induction l with
  | nil => simp [putL, getL]
  | cons p t ih =>
    unfold putL getL
    split
    · simp [ih]; omega
    · split <;> simp
theorem del_len (c : α → α → Int) (k : α) (l : List (α × β)) : (delL c k l).length + (if (getL c k l).isSome then 1 else 0) = l.length := by
  induction l with
  | nil => simp [delL, getL]
  | cons p t ih =>
    unfold delL getL
    split
    · simp; omega
    · split <;> simp
end Go.Proofs.Ytbgoddcpgogpdaa
