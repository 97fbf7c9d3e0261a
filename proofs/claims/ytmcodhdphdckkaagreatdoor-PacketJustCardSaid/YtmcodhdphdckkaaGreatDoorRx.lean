/-
  The packet's reader, plain: a filter's item, its kids, and what a call on them answers.
-/
import Derived.Test.YtmcodhdphdckkaaGreatDoorRw
namespace Go.Proofs.YtmcodhdphdckkaaGreatDoor
open Go.RowKit Go.Shelf

/-- a filter that was read: itself, its kids, the place behind it, how many parts so far -/
structure PR where
  a : OwnF
  k : FT
  nx : Nat
  p : Nat
def toFT : List (OwnF × FT) → FT
  | [] => .nil
  | (a, k) :: r => .cons a k (toFT r)
theorem toFT_len (l : List (OwnF × FT)) : (toFT l).len = l.length := by
  induction l with
  | nil => rfl
  | cons a l ih => obtain ⟨a, k⟩ := a; simp [toFT, FT.len, ih]
abbrev KF := Int → Int → Nat → Rs PR
/-- kids, as long as something is left -/
def kidsA (K : KF) : Nat → Ix → Nat → List (OwnF × FT) → Rs (List (OwnF × FT) × Nat)
  | 0, _, p, acc => .ok (acc, p)
  | g + 1, x, p, acc => if x.left then bindR (K x.next x.t.til p) fun r => kidsA K g (x.to r.nx) r.p (acc ++ [(r.a, r.k)]) else .ok (acc, p)
def kidR (K : KF) (x : Ix) (p : Nat) : Rs PR := bindR (needR x) fun _ => K x.next x.t.til p
def kidsR (K : KF) (x : Ix) (p : Nat) : Rs (List (OwnF × FT) × Nat) := bindR (kidR K x p) fun r => kidsA K (x.t.til + 1) (x.to r.nx) r.p [(r.a, r.k)]
def onlyR (K : KF) (l : List UInt8) (x : Ix) (p : Nat) : Rs (List (OwnF × FT) × Nat) := bindR (kidR K x p) fun r => bindR (endR l (x.to r.nx)) fun _ => .ok ([(r.a, r.k)], r.p)
def filterR (K : KF) (l : List UInt8) (x : Ix) (p : Nat) : Rs (OwnF × FT × Nat) :=
  if bAt l x.at_ = 160 then bindR (kidsR K x p) fun r => .ok (ownK 0, toFT r.1, r.2)
  else if bAt l x.at_ = 161 then bindR (kidsR K x p) fun r => .ok (ownK 1, toFT r.1, r.2)
  else if bAt l x.at_ = 162 then bindR (onlyR K l x p) fun r => .ok (ownK 2, toFT r.1, r.2)
  else if bAt l x.at_ = 163 then bindR (againstR l x 3) fun a => .ok (a, .nil, p)
  else if bAt l x.at_ = 165 then bindR (againstR l x 5) fun a => .ok (a, .nil, p)
  else if bAt l x.at_ = 166 then bindR (againstR l x 6) fun a => .ok (a, .nil, p)
  else if bAt l x.at_ = 168 then bindR (againstR l x 8) fun a => .ok (a, .nil, p)
  else if bAt l x.at_ = 135 then bindR (textR l x) fun d => bindR (checkedR { ownK 7 with desc := str d } .nil x.at_) fun a => .ok (a, .nil, p)
  else if bAt l x.at_ = 164 then bindR (partR l x) fun b => bindR (checkedR b .nil x.at_) fun a => .ok (a, .nil, p)
  else if bAt l x.at_ = 169 then bindR (ruleR l x) fun b => bindR (checkedR b .nil x.at_) fun a => .ok (a, .nil, p)
  else .error (20, x.at_)
def upP (l : List UInt8) (x : Ix) (p : Nat) : Nat := if bAt l x.at_ = 162 then p else p + 1
def pathR (l : List UInt8) : Nat → KF
  | 0 => fun a e _ => bindR (itemR l a e) fun _ => .error (91, a)
  | f + 1 => fun a e p => bindR (itemR l a e) fun x => if 65536 < upP l x p then .error (3, a) else bindR (filterR (pathR l f) l x (upP l x p)) fun r => .ok ⟨r.1, r.2.1, x.t.til, r.2.2⟩
theorem pathR_ok {l : List UInt8} {f : Nat} {a e : Int} {p : Nat} {r : PR} (h : pathR l f a e p = .ok r) : a + 2 ≤ (r.nx : Int) ∧ (r.nx : Int) ≤ e := by
  cases f with
  | zero =>
    simp only [pathR] at h
    cases hi : itemR l a e with
    | error q => rw [hi] at h; simp [bindR] at h
    | ok x => rw [hi] at h; simp [bindR] at h
  | succ f =>
    simp only [pathR] at h
    cases hi : itemR l a e with
    | error q => rw [hi] at h; simp [bindR] at h
    | ok x =>
      obtain ⟨⟨k1, k2, k3, k4⟩, h2, h3, h4, h5, h6⟩ := itemR_ok hi
      rw [hi] at h
      simp only [bindR] at h
      split at h
      · cases h
      · split at h
        · simp only [Except.ok.injEq] at h
          subst h
          simp only
          omega
        · cases h
/-- what a path's call leaves -/
def pathF (w w' : World) (R : Nat) (v : Value) (r : PR) (x : Ending) : Prop := ∃ f : F9, x = .returned (.tuple #[.agg f.arr, .int .i64 r.nx]) ∧ FKeep (news w w') w' f r.a r.k ∧ RdB w' R v r.p ∧ r.p ≤ 65536
/-- what reader.part does, so many parts may still stand in one another -/
def PathSpec (f : Nat) : Prop := ∀ (w : World) (R : Nat) (v : Value) (l : List UInt8) (p : Nat) (a e : Int), RdB w R v p → Sl w v l → l.length < 36028797018963968 → (0 < l.length → ∀ a n c, v = .slice (some a) n c → a.block ≠ R) → p ≤ 65536 → (0 ≤ a → a ≤ e → e ≤ l.length → e - a ≤ 1048576) →
  Calls Tryz.prog 45 #[.pointer (some ⟨R, 0, none⟩), .int .i64 a, .int .i64 e, .int .i64 (64 - f : Nat)] w fun x w' => Only (fun g => g = R) w w' ∧ Outc (pathR l f a e p) (pathF w w' R v) x
end Go.Proofs.YtmcodhdphdckkaaGreatDoor
