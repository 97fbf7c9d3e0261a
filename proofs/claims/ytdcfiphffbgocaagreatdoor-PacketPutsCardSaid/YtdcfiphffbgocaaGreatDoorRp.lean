/-
  What the packet's reader answers, plain: a step's outcome is what it reads, or the fault and its place.
-/
import Derived.Test.YtdcfiphffbgocaaGreatDoorKv
namespace Go.Proofs.YtdcfiphffbgocaaGreatDoor

abbrev Rs (α : Type) := Except (Nat × Int) α
/-- the byte at a place -/
def bAt (l : List UInt8) (i : Nat) : Nat := (l[i]?.getD 0).toNat
/-- an item whose body is read: its header, where it begins, where that begins which is not read yet -/
structure Ix where
  t : Tl
  at_ : Nat
  next : Nat
def headR (l : List UInt8) (a e : Int) : Rs Tl := if (headL l a e).2 = 0 then .ok (headL l a e).1 else .error ((headL l a e).2, a)
def itemR (l : List UInt8) (a e : Int) : Rs Ix := if (headL l a e).2 = 0 then .ok ⟨(headL l a e).1, a.toNat, (headL l a e).1.fro⟩ else .error ((headL l a e).2, a)
def Ix.left (x : Ix) : Bool := decide (x.next < x.t.til)
def needR (x : Ix) : Rs Unit := if x.left then .ok () else .error (90, x.at_)
def endR (l : List UInt8) (x : Ix) : Rs Unit := if x.left then (match itemR l x.next x.t.til with | .error e => .error e | .ok _ => .error (24, x.next)) else .ok ()
def comesR (l : List UInt8) (x : Ix) (tag : Nat) : Rs Bool := if x.left then (match itemR l x.next x.t.til with | .error e => .error e | .ok y => .ok (bAt l y.at_ == tag)) else .ok false
/-- the next item, which must be of that tag -/
def takeR (l : List UInt8) (x : Ix) (tag : Nat) : Rs Ix := if x.left then (match itemR l x.next x.t.til with | .error e => .error e | .ok y => if bAt l y.at_ = tag then .ok y else .error (20, y.at_)) else .error (90, x.at_)
def textR (l : List UInt8) (x : Ix) : Rs (List UInt8) := if 65536 < x.t.til - x.t.fro then .error (3, x.at_) else if x.t.cons then .error (20, x.at_) else .ok (cutB l x.t.fro x.t.til)
def flagR (l : List UInt8) (x : Ix) : Rs Bool := if x.t.cons then .error (20, x.at_) else if cutB l x.t.fro x.t.til = [255] ∨ cutB l x.t.fro x.t.til = [0] then .ok (cutB l x.t.fro x.t.til == [255]) else .error (22, x.at_)
/-- an item lies within the bytes -/
def Ix.Ok (l : List UInt8) (x : Ix) : Prop := x.at_ + 2 ≤ x.t.fro ∧ x.t.fro ≤ x.next ∧ x.next ≤ x.t.til ∧ x.t.til ≤ l.length
theorem itemR_ok {l : List UInt8} {a e : Int} {x : Ix} (h : itemR l a e = .ok x) : x.Ok l ∧ 0 ≤ a ∧ x.at_ = a.toNat ∧ x.next = x.t.fro ∧ (x.t.til : Int) ≤ e ∧ a ≤ e := by
  unfold itemR at h
  split at h
  · rename_i h0
    have := headL_ok l a e h0
    simp only [Except.ok.injEq] at h
    subst h
    obtain ⟨h1, h2, h3, h4, h5, h6⟩ := this
    exact ⟨⟨h4, Nat.le_refl _, h5, by show (headL l a e).1.til ≤ l.length; omega⟩, h1, rfl, rfl, by show ((headL l a e).1.til : Int) ≤ e; omega, h2⟩
  · cases h
end Go.Proofs.YtdcfiphffbgocaaGreatDoor
