/-
  Grams, plainly: three symbols beside one another, and what addRow's closure makes of a row of symbols. No dump is imported here.
-/
import Derived.Test.YtpajkeljgifndaaGreatGp
namespace Go.Proofs.YtpajkeljgifndaaGreat.G3

/-- three symbols as a number -/
def cod (a b c : Nat) : Nat := a * 262144 + b * 512 + c
def tri : List Nat → List UInt32
  | a :: b :: c :: t => UInt32.ofNat (cod a b c) :: tri (b :: c :: t)
  | _ => []
/-- a row of symbols: a text's bytes, perhaps with the edges -/
def sym (st : Bool) (s : List UInt8) (en : Bool) : List Nat := (if st then [256] else []) ++ s.map (·.toNat) ++ (if en then [257] else [])
theorem sym_lt (st en : Bool) (s : List UInt8) : ∀ x ∈ sym st s en, x < 512 := by
  intro x hx
  simp only [sym, List.mem_append, List.mem_map] at hx
  rcases hx with (hx | ⟨b, _, rfl⟩) | hx
  · cases st <;> simp at hx; omega
  · have := b.toNat_lt; omega
  · cases en <;> simp at hx; omega
theorem sym_len (st en : Bool) (s : List UInt8) : (sym st s en).length ≤ s.length + 2 := by
  cases st <;> cases en <;> simp [sym]
theorem tri_len : ∀ l : List Nat, (tri l).length ≤ l.length - 2
  | [] => by simp [tri]
  | [_] => by simp [tri]
  | [_, _] => by simp [tri]
  | a :: b :: c :: t => by
    have := tri_len (b :: c :: t)
    simp only [tri, List.length_cons] at *
    omega
/-- what the closure keeps: the last symbols, how many there were, the grams -/
def nxG (g x : Nat) : Nat := (g * 512 + x) % 134217728
def nxL (n : Nat) (l : List UInt32) (g : Nat) : List UInt32 := if 3 ≤ n + 1 then l ++ [UInt32.ofNat g] else l
def nx (s : Nat × Nat × List UInt32) (x : Nat) : Nat × Nat × List UInt32 := (nxG s.1 x, s.2.1 + 1, nxL s.2.1 s.2.2 (nxG s.1 x))
theorem nxG_lt (g x : Nat) : nxG g x < 134217728 := Nat.mod_lt _ (by decide)
theorem nx_n : ∀ (l : List Nat) (s : Nat × Nat × List UInt32), (l.foldl nx s).2.1 = s.2.1 + l.length
  | [], _ => rfl
  | x :: l, s => by rw [List.foldl_cons, nx_n l]; simp [nx]; omega
theorem nx_l : ∀ (l : List Nat) (s : Nat × Nat × List UInt32), (l.foldl nx s).2.2.length ≤ s.2.2.length + l.length
  | [], _ => Nat.le_refl _
  | x :: l, s => by
    have := nx_l l (nx s x)
    rw [List.foldl_cons]
    have h2 : (nx s x).2.2.length ≤ s.2.2.length + 1 := by
      simp only [nx, nxL]; split <;> simp
    simp only [List.length_cons]; omega
theorem nx_g : ∀ (l : List Nat) (s : Nat × Nat × List UInt32), s.1 < 134217728 → (l.foldl nx s).1 < 134217728
  | [], _, h => h
  | x :: l, s, _ => by rw [List.foldl_cons]; exact nx_g l _ (nxG_lt _ _)
theorem nx_two : ∀ (l : List Nat) (a b g n : Nat) (out : List UInt32), (∀ x ∈ l, x < 512) → a < 512 → b < 512 → g % 262144 = a * 512 + b → 2 ≤ n → (l.foldl nx (g, n, out)).2.2 = out ++ tri (a :: b :: l)
  | [], a, b, g, n, out, _, _, _, _, _ => by simp [tri]
  | x :: l, a, b, g, n, out, hl, ha, hb, hg, hn => by
    have hx : x < 512 := hl x (by simp)
    have hG : nxG g x = cod a b x := by unfold nxG cod; omega
    rw [List.foldl_cons]
    show (l.foldl nx (nxG g x, n + 1, nxL n out (nxG g x))).2.2 = _
    rw [nx_two l b x (nxG g x) (n + 1) _ (fun y hy => hl y (by simp [hy])) hb hx (by rw [hG]; unfold cod; omega) (by omega), hG, nxL, if_pos (by omega), tri]
    simp
theorem nx_tri (l : List Nat) (out : List UInt32) (hl : ∀ x ∈ l, x < 512) : (l.foldl nx (0, 0, out)).2.2 = out ++ tri l := by
  match l, hl with
  | [], _ => simp [tri]
  | [x], _ => simp [tri, nx, nxL]
  | x :: y :: l, hl =>
    have hx : x < 512 := hl x (by simp)
    have hy : y < 512 := hl y (by simp)
    have e : (x :: y :: l).foldl nx (0, 0, out) = l.foldl nx (nxG (nxG 0 x) y, 2, out) := by simp [nx, nxL]
    rw [e, nx_two l x y _ 2 out (fun z hz => hl z (by simp [hz])) hx hy (by unfold nxG; omega) (Nat.le_refl _)]
/-- the grams of a key -/
def gramsL (s : List UInt8) : List UInt32 := setL (tri (sym true s true))
/-- the grams of pieces, each with its edges, from the piece i on of n -/
def rowsL (n : Nat) : Nat → List (List UInt8) → List UInt32
  | _, [] => []
  | i, p :: t => tri (sym (decide (i = 0)) p (decide (i + 1 = n))) ++ rowsL n (i + 1) t
def askedL (ps : List (List UInt8)) : List UInt32 := if ps.length < 2 then [] else setL (rowsL ps.length 0 ps)
theorem rowsL_snoc (n : Nat) (q : List UInt8) : ∀ (l : List (List UInt8)) (i : Nat), rowsL n i (l ++ [q]) = rowsL n i l ++ tri (sym (decide (i + l.length = 0)) q (decide (i + l.length + 1 = n)))
  | [], i => by simp [rowsL]
  | p :: l, i => by
    have e : i + (l.length + 1) = i + 1 + l.length := by omega
    simp only [List.cons_append, rowsL, rowsL_snoc n q l (i + 1), List.append_assoc, List.length_cons, e]
/-- at most so many -/
def weigh (ps : List (List UInt8)) : Nat := (ps.map (fun p => p.length + 1)).sum
theorem rowsL_len (n : Nat) : ∀ (l : List (List UInt8)) (i : Nat), (rowsL n i l).length ≤ weigh l
  | [], _ => by simp [rowsL]
  | p :: l, i => by
    have h1 := rowsL_len n l (i + 1)
    have h2 := tri_len (sym (decide (i = 0)) p (decide (i + 1 = n)))
    have h3 := sym_len (decide (i = 0)) (decide (i + 1 = n)) p
    simp only [rowsL, List.length_append, weigh, List.map_cons, List.sum_cons] at *
    omega
end Go.Proofs.YtpajkeljgifndaaGreat.G3
