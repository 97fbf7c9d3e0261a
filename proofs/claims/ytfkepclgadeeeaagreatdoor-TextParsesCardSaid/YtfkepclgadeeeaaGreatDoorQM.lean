/-
  The program's reader of any text: an item, plain.
-/
import Derived.Test.YtfkepclgadeeeaaGreatDoorPd
import Derived.Test.YtfkepclgadeeeaaGreatDoorYta
namespace Go.Proofs.YtfkepclgadeeeaaGreatDoor
open Go.RowKit Go.Shelf

/-- a filter's own parts that has no lists yet -/
def f9O (f : F9) : OwnF := ⟨f.kind, f.desc, f.value, f.start, [], f.fin, f.rule, f.dn⟩
/-- only a description was read -/
def dF (d : ByteArray) : F9 := ⟨0, none, 0, 0, d, ⟨#[]⟩, ⟨#[]⟩, none, 0, 0, ⟨#[]⟩, ⟨#[]⟩, false⟩
def Bare (f : F9) : Prop := f.ka = none ∧ f.kn = 0 ∧ f.kc = 0 ∧ f.ma = none ∧ f.mn = 0 ∧ f.mc = 0
/-- all texts of an item are short -/
def Short (a : OwnF) : Prop := a.desc.size ≤ 65536 ∧ a.value.size ≤ 65536 ∧ a.start.size ≤ 65536 ∧ a.fin.size ≤ 65536 ∧ a.rule.size ≤ 65536 ∧ (∀ m ∈ a.ms, m.size ≤ 65536) ∧ 0 ≤ a.kind ∧ a.kind ≤ 9
def headR (s : ByteArray) (p : Nat) : Tr ByteArray := if hdIs 58 ((byt s).drop p) then .ok ⟨#[]⟩ p else descR s p
/-- what stands behind a description -/
def signR (s : ByteArray) (d : ByteArray) (q : Nat) : Tr OwnF :=
  if hdIs 61 ((byt s).drop q) then eqR s (f9O (dF d)) (q + 1)
  else if hdIs 126 ((byt s).drop q) then (agR s 8 (dF d) (q + 1)).bind fun f r => .ok (f9O f) r
  else if hdIs 62 ((byt s).drop q) then (agR s 5 (dF d) (q + 1)).bind fun f r => .ok (f9O f) r
  else if hdIs 60 ((byt s).drop q) then (agR s 6 (dF d) (q + 1)).bind fun f r => .ok (f9O f) r
  else (ruledR s (dF d) q).bind fun f r => .ok (f9O f) r
def itemR (s : ByteArray) (p : Nat) : Tr OwnF := (headR s p).bind fun d q => signR s d q

theorem valR_short {s : ByteArray} {p : Nat} {inP : Bool} {x : ByteArray} {q : Nat} (h : valR s inP p = .ok x q) : x.size ≤ 65536 := by
  unfold valR at h
  split at h
  · split at h
    · cases h; assumption
    · cases h
  · cases h
theorem descR_short {s : ByteArray} {p : Nat} {x : ByteArray} {q : Nat} (h : descR s p = .ok x q) : x.size ≤ 65536 := by
  unfold descR at h
  split at h
  · split at h
    · cases h; rw [ByteArray.size_extract]; omega
    · cases h
  · cases h
theorem ruleR_short {s : ByteArray} {p : Nat} {x : ByteArray} {q : Nat} (h : ruleR s p = .ok x q) : x.size ≤ 65536 := by
  unfold ruleR at h
  split at h
  · split at h
    · cases h; rw [ByteArray.size_extract]; omega
    · cases h
  · cases h
theorem Tr.bind_ok {α β : Type} {o : Tr α} {g : α → Nat → Tr β} {y : β} {r : Nat} (h : o.bind g = .ok y r) : ∃ x q, o = .ok x q ∧ g x q = .ok y r := by
  cases o with
  | ok x q => exact ⟨x, q, rfl, h⟩
  | bad c a => cases h
theorem agR_ok {s : ByteArray} {kind : Int} {f f' : F9} {p q : Nat} (h : agR s kind f p = .ok f' q) : ∃ x, f' = { f with kind := kind, value := x } ∧ x.size ≤ 65536 ∧ (p ≤ s.size → q ≤ s.size) := by
  unfold agR at h
  split at h
  · rename_i hh
    obtain ⟨x, q', h1, h2⟩ := Tr.bind_ok h
    cases h2
    exact ⟨x, rfl, valR_short h1, fun hp => (valR_le (by have := hdIs_lt hh; omega) h1).2⟩
  · cases h
theorem dnR_ok {s : ByteArray} {f f' : F9} {p q : Nat} (h : dnR s f p = .ok f' q) : (∃ x, f' = { f with rule := x } ∧ x.size ≤ 65536) ∨ f' = { f with dn := true } := by
  unfold dnR at h
  obtain ⟨x, q', h1, h2⟩ := Tr.bind_ok h
  split at h2
  · split at h2
    · cases h2
    · cases h2; exact .inr rfl
  · cases h2; exact .inl ⟨x, rfl, ruleR_short h1⟩
theorem ruGo_ok {s : ByteArray} : ∀ {n : Nat} {f f' : F9} {p q : Nat}, ruGo s n f p = .ok f' q → Bare f → Short (f9O f) → p ≤ s.size → Bare f' ∧ Short (f9O f') ∧ q ≤ s.size
  | 0, _, _, _, _, h, _, _, _ => by cases h
  | n + 1, f, f', p, q, h, hb, hs, hp => by
    rw [ruGo] at h
    split at h
    · rename_i h58
      have hlt := hdIs_lt h58
      split at h
      · rename_i hc
        rw [Bool.and_eq_true] at hc
        have hlt2 := hdIs_lt hc.2
        obtain ⟨x, q', h1, h2⟩ := Tr.bind_ok h
        cases h2
        exact ⟨hb, ⟨hs.1, valR_short h1, hs.2.2⟩, (valR_le (by omega) h1).2⟩
      · split at h
        · cases h
        · obtain ⟨x, q', h1, h2⟩ := Tr.bind_ok h
          have hq := dnR_le (by omega) h1
          refine ruGo_ok h2 ?_ ?_ hq.2
          · rcases dnR_ok h1 with ⟨y, rfl, -⟩ | rfl <;> exact hb
          · rcases dnR_ok h1 with ⟨y, rfl, hy⟩ | rfl
            · exact ⟨hs.1, hs.2.1, hs.2.2.1, hs.2.2.2.1, hy, hs.2.2.2.2.2⟩
            · exact hs
    · cases h
theorem pcGo_ok {s : ByteArray} : ∀ {n : Nat} {a b : OwnF} {p q : Nat}, pcGo s n a p = .ok b q → Short a → p ≤ s.size → Short b ∧ q ≤ s.size
  | 0, _, _, _, _, h, hs, hp => by cases h; exact ⟨hs, hp⟩
  | n + 1, a, b, p, q, h, hs, hp => by
    rw [pcGo] at h
    split at h
    · rename_i hc
      have hlt := hdIs_lt hc
      obtain ⟨x, q', h1, h2⟩ := Tr.bind_ok h
      refine pcGo_ok h2 ?_ (valR_le (by omega) h1).2
      refine ⟨hs.1, hs.2.1, hs.2.2.1, valR_short h1, hs.2.2.2.2.1, ?_, hs.2.2.2.2.2.2⟩
      intro m hm
      split at hm
      · exact hs.2.2.2.2.2.1 m hm
      · rcases List.mem_append.1 hm with hm | hm
        · exact hs.2.2.2.2.2.1 m hm
        · simp only [List.mem_singleton] at hm; subst hm; exact hs.2.2.2.1
    · cases h; exact ⟨hs, hp⟩
theorem eqR_ok {s : ByteArray} {a b : OwnF} {p q : Nat} (h : eqR s a p = .ok b q) (hs : Short a) (hp : p ≤ s.size) : Short b ∧ q ≤ s.size := by
  unfold eqR at h
  obtain ⟨x, q', h1, h2⟩ := Tr.bind_ok h
  have hv := valR_short h1
  have hq := (valR_le hp h1).2
  obtain ⟨s1, s2, s3, s4, s5, s6, s7, s8⟩ := hs
  split at h2
  · obtain ⟨c, r, h3, h4⟩ := Tr.bind_ok h2
    have := pcGo_ok h3 ⟨s1, s2, hv, s4, s5, s6, by show (0 : Int) ≤ 4; decide, by show (4 : Int) ≤ 9; decide⟩ hq
    cases h4
    refine ⟨?_, this.2⟩
    unfold pcEnd
    split
    · exact ⟨this.1.1, this.1.2.1, this.1.2.2.1, this.1.2.2.2.1, this.1.2.2.2.2.1, this.1.2.2.2.2.2.1, by show (0 : Int) ≤ 7; decide, by show (7 : Int) ≤ 9; decide⟩
    · exact this.1
  · cases h2
    exact ⟨⟨s1, hv, s3, s4, s5, s6, by show (0 : Int) ≤ 3; decide, by show (3 : Int) ≤ 9; decide⟩, hq⟩
theorem headR_ok {s d : ByteArray} {p q : Nat} (h : headR s p = .ok d q) (hp : p ≤ s.size) : d.size ≤ 65536 ∧ q ≤ s.size := by
  unfold headR at h
  split at h
  · cases h; exact ⟨Nat.zero_le _, hp⟩
  · exact ⟨descR_short h, (descR_le hp h).2⟩
theorem dF_short {d : ByteArray} (h : d.size ≤ 65536) : Short (f9O (dF d)) := ⟨h, Nat.zero_le _, Nat.zero_le _, Nat.zero_le _, Nat.zero_le _, (fun m hm => by cases hm), by show (0 : Int) ≤ 0; decide, by show (0 : Int) ≤ 9; decide⟩
theorem ag_short {s : ByteArray} {kind : Int} {d : ByteArray} {b : OwnF} {p q : Nat} (hk : 0 ≤ kind ∧ kind ≤ 9) (hd : d.size ≤ 65536) (hp : p ≤ s.size) (h : ((agR s kind (dF d) p).bind fun f r => Tr.ok (f9O f) r) = .ok b q) : Short b ∧ q ≤ s.size := by
  obtain ⟨f, r, h1, h2⟩ := Tr.bind_ok h
  obtain ⟨x, rfl, hx, hq⟩ := agR_ok h1
  cases h2
  exact ⟨⟨hd, hx, Nat.zero_le _, Nat.zero_le _, Nat.zero_le _, (fun m hm => by cases hm), hk⟩, hq hp⟩
/-- what an item is that was read -/
theorem itemR_ok {s : ByteArray} {a : OwnF} {p q : Nat} (h : itemR s p = .ok a q) (hp : p ≤ s.size) : Short a ∧ q ≤ s.size := by
  unfold itemR at h
  obtain ⟨d, r, h1, h2⟩ := Tr.bind_ok h
  obtain ⟨hd, hr⟩ := headR_ok h1 hp
  unfold signR at h2
  split at h2
  · rename_i hh
    exact eqR_ok h2 (dF_short hd) (by have := hdIs_lt hh; omega)
  · split at h2
    · rename_i hh
      exact ag_short (by decide) hd (by have := hdIs_lt hh; omega) h2
    · split at h2
      · rename_i hh
        exact ag_short (by decide) hd (by have := hdIs_lt hh; omega) h2
      · split at h2
        · rename_i hh
          exact ag_short (by decide) hd (by have := hdIs_lt hh; omega) h2
        · obtain ⟨f, q', h3, h4⟩ := Tr.bind_ok h2
          cases h4
          have := ruGo_ok h3 ⟨rfl, rfl, rfl, rfl, rfl, rfl⟩ ⟨hd, Nat.zero_le _, Nat.zero_le _, Nat.zero_le _, Nat.zero_le _, (fun m hm => by cases hm), by show (0 : Int) ≤ 9; decide, by show (9 : Int) ≤ 9; decide⟩ hr
          exact this.2
end Go.Proofs.YtfkepclgadeeeaaGreatDoor

/-
  A filter that was made by a call: each of its slices is an own row, and no two of them share a block (after t11m/Sep; the rows' lengths are the tree's).
-/
namespace Go.Proofs.YtfkepclgadeeeaaGreatDoor
open Go.RowKit

/-- a row of filters, in its own block -/
def Row9 (w : World) (v : Value) (fs : List F9) : Prop := RowF w (own v) v fs
/-- the middles' row -/
def RowM (w : World) (f : F9) (a : OwnF) : Prop := f.mn = a.ms.length ∧ ∃ xs, Row w (own f.mids) 9 1 f.mids f.mn xs
theorem RowM.like {w w' : World} {f : F9} {a : OwnF} (h : RowM w f a) (k : ∀ g, own f.mids g → w'.heap[g]? = w.heap[g]?) : RowM w' f a := by
  obtain ⟨h2, xs, h1⟩ := h
  exact ⟨h2, xs, Row.alike h1 k⟩
theorem RowM.lt {w : World} {f : F9} {a : OwnF} (h : RowM w f a) {g : Nat} (hg : own f.mids g) : g < w.heap.size := by
  obtain ⟨-, xs, h1⟩ := h
  exact Row.lt h1 hg
theorem row9_nil (w : World) : Row9 w (.slice none 0 0) [] := row_nil _ _ _ _
/-- the filters fs are the kids k, each in blocks of its own -/
def SepC (w : World) : FT → (Nat → Prop) → List F9 → Prop
  | .nil, _, fs => fs = []
  | .cons a kids rest, U, fs => ∃ (f : F9) (ks fs' : List F9) (U1 U2 Us : Nat → Prop), fs = f :: fs' ∧ (∀ g, U1 g → U g ∧ ¬ U2 g) ∧ (∀ g, U2 g → U g) ∧
      (RowM w f a ∧ Row9 w f.kids ks ∧ (∀ g, own f.mids g → U1 g ∧ ¬ Us g) ∧ (∀ g, own f.kids g → U1 g ∧ ¬ Us g) ∧ (∀ g, Us g → U1 g) ∧ SepC w kids Us ks) ∧ SepC w rest U2 fs'
/-- a filter and its kids -/
def Sep (U : Nat → Prop) (w : World) (f : F9) (a : OwnF) (k : FT) : Prop := ∃ (ks : List F9) (Us : Nat → Prop), RowM w f a ∧ Row9 w f.kids ks ∧ (∀ g, own f.mids g → U g ∧ ¬ Us g) ∧ (∀ g, own f.kids g → U g ∧ ¬ Us g) ∧ (∀ g, Us g → U g) ∧ SepC w k Us ks
theorem SepC.cons {w : World} {a : OwnF} {kids rest : FT} {U U1 U2 : Nat → Prop} {f : F9} {fs : List F9} (h : Sep U1 w f a kids) (h1 : ∀ g, U1 g → U g ∧ ¬ U2 g) (h2 : ∀ g, U2 g → U g) (hr : SepC w rest U2 fs) : SepC w (.cons a kids rest) U (f :: fs) := by
  obtain ⟨ks, Us, k1, k2, k3, k4, k5, k6⟩ := h
  exact ⟨f, ks, fs, U1, U2, Us, rfl, h1, h2, ⟨k1, k2, k3, k4, k5, k6⟩, hr⟩
theorem SepC.split {w : World} {a : OwnF} {kids rest : FT} {U : Nat → Prop} {fs : List F9} (h : SepC w (.cons a kids rest) U fs) : ∃ (f : F9) (fs' : List F9) (U1 U2 : Nat → Prop), fs = f :: fs' ∧ (∀ g, U1 g → U g ∧ ¬ U2 g) ∧ (∀ g, U2 g → U g) ∧ Sep U1 w f a kids ∧ SepC w rest U2 fs' := by
  obtain ⟨f, ks, fs', U1, U2, Us, h1, h2, h3, ⟨k1, k2, k3, k4, k5, k6⟩, h5⟩ := h
  exact ⟨f, fs', U1, U2, h1, h2, h3, ⟨ks, Us, k1, k2, k3, k4, k5, k6⟩, h5⟩
theorem SepC.next {w w' : World} : ∀ (k : FT) (U : Nat → Prop) (fs : List F9), SepC w k U fs → (∀ g, U g → g < w.heap.size → w'.heap[g]? = w.heap[g]?) → SepC w' k U fs
  | .nil, _, _, h, _ => h
  | .cons a kids rest, U, fs, h, hw => by
    obtain ⟨f, ks, fs', U1, U2, Us, h1, h2, h3, ⟨k1, k2, k3, k4, k5, k6⟩, h5⟩ := h
    exact ⟨f, ks, fs', U1, U2, Us, h1, h2, h3, ⟨k1.like (fun g hg => hw g (h2 g (k3 g hg).1).1 (k1.lt hg)), Row.alike k2 (fun g hg => hw g (h2 g (k4 g hg).1).1 (Row.lt k2 hg)), k3, k4, k5, SepC.next kids Us ks k6 (fun g hg => hw g (h2 g (k5 g hg)).1)⟩, SepC.next rest U2 fs' h5 (fun g hg => hw g (h3 g hg))⟩
theorem SepC.wide {w : World} : ∀ (k : FT) (U U' : Nat → Prop) (fs : List F9), SepC w k U fs → (∀ g, U g → U' g) → SepC w k U' fs
  | .nil, _, _, _, h, _ => h
  | .cons _ kids rest, U, U', fs, h, hU => by
    obtain ⟨f, ks, fs', U1, U2, Us, h1, h2, h3, h4, h5⟩ := h
    exact ⟨f, ks, fs', U1, U2, Us, h1, fun g hg => ⟨hU g (h2 g hg).1, (h2 g hg).2⟩, fun g hg => hU g (h3 g hg), h4, h5⟩
theorem Sep.next {w w' : World} {U : Nat → Prop} {f : F9} {a : OwnF} {k : FT} (h : Sep U w f a k) (hw : ∀ g, U g → g < w.heap.size → w'.heap[g]? = w.heap[g]?) : Sep U w' f a k := by
  obtain ⟨ks, Us, k1, k2, k3, k4, k5, k6⟩ := h
  exact ⟨ks, Us, k1.like (fun g hg => hw g (k3 g hg).1 (k1.lt hg)), Row.alike k2 (fun g hg => hw g (k4 g hg).1 (Row.lt k2 hg)), k3, k4, k5, k6.next k Us ks (fun g hg => hw g (k5 g hg))⟩
theorem Sep.wide {w : World} {U U' : Nat → Prop} {f : F9} {a : OwnF} {k : FT} (h : Sep U w f a k) (hU : ∀ g, U g → U' g) : Sep U' w f a k := by
  obtain ⟨ks, Us, k1, k2, k3, k4, k5, k6⟩ := h
  exact ⟨ks, Us, k1, k2, fun g hg => ⟨hU g (k3 g hg).1, (k3 g hg).2⟩, fun g hg => ⟨hU g (k4 g hg).1, (k4 g hg).2⟩, fun g hg => hU g (k5 g hg), k6⟩
/-- forests, one more tree -/
def FT.snoc : FT → OwnF → FT → FT
  | .nil, a, k => .cons a k .nil
  | .cons b l r, a, k => .cons b l (r.snoc a k)
theorem toFT_snoc (r : List (OwnF × FT)) (a : OwnF) (k : FT) : toFT (r ++ [(a, k)]) = (toFT r).snoc a k := by
  induction r with
  | nil => rfl
  | cons x r ih => obtain ⟨b, l⟩ := x; simp only [List.cons_append, toFT, FT.snoc, ih]
theorem SepC.snoc {w : World} {a : OwnF} {kid : FT} {f : F9} {V : Nat → Prop} (hf : Sep V w f a kid) : ∀ (k : FT) (U : Nat → Prop) (fs : List F9), SepC w k U fs → (∀ g, U g → ¬ V g) → SepC w (k.snoc a kid) (fun g => U g ∨ V g) (fs ++ [f])
  | .nil, U, fs, h, hd => by
    subst h
    exact SepC.cons hf (U2 := fun _ => False) (fun g hg => ⟨.inr hg, id⟩) (fun g hg => hg.elim) rfl
  | .cons b l r, U, fs, h, hd => by
    obtain ⟨f', fs', U1, U2, rfl, h2, h3, h4, h5⟩ := h.split
    refine SepC.cons h4 (U2 := fun g => U2 g ∨ V g) (fun g hg => ⟨.inl (h2 g hg).1, fun hx => hx.elim (h2 g hg).2 (hd g (h2 g hg).1)⟩) (fun g hg => hg.imp (h3 g) id) (SepC.snoc hf r U2 fs' h5 (fun g hg => hd g (h3 g hg)))
theorem sep_mids {U S : Nat → Prop} {w : World} {a : OwnF} {k : Int} {d v s e r : ByteArray} {b : Bool} {ma : Option Addr} {mn mc : Nat} (h : RowS w S (.slice ma mn mc) a.ms) (hU : ∀ g, own (.slice ma mn mc) g → U g) : Sep U w ⟨k, none, 0, 0, d, v, s, ma, mn, mc, e, r, b⟩ a .nil := by
  have hmn : mn = a.ms.length := (RowS.ssl h).len.1
  unfold RowS at h
  refine ⟨[], fun _ => False, ⟨hmn, a.ms.map Value.string, ?_⟩, row9_nil _, fun g hg => ⟨hU g hg, id⟩, fun g hg => by simp [own, F9.kids, Value.ownBlock] at hg, fun g hg => hg.elim, rfl⟩
  rw [hmn] at h ⊢
  exact ⟨h.1, fun _ hk => hk⟩
theorem sep_kids {U : Nat → Prop} {w : World} {kd : Int} {x : Option Addr} {n c : Nat} {a : OwnF} {k : FT} {ks : List F9} {Us : Nat → Prop} (ha : a.ms = []) (h1 : Row9 w (.slice x n c) ks) (h2 : ∀ g, own (.slice x n c) g → U g ∧ ¬ Us g) (h3 : ∀ g, Us g → U g) (h4 : SepC w k Us ks) : Sep U w ⟨kd, x, n, c, ⟨#[]⟩, ⟨#[]⟩, ⟨#[]⟩, none, 0, 0, ⟨#[]⟩, ⟨#[]⟩, false⟩ a k :=
  ⟨ks, Us, ⟨by rw [ha]; rfl, [], row_nil _ _ _ _⟩, h1, fun g hg => by simp [own, F9.mids, Value.ownBlock] at hg, h2, h3, h4⟩
/-- a filter that was made, and is one's own -/
def GKeep (B : Nat → Prop) (w : World) (f : F9) (a : OwnF) (k : FT) : Prop := FKeep B w f a k ∧ Sep B w f a k
theorem GKeep.self {B : Nat → Prop} {w : World} {f : F9} {a : OwnF} {k : FT} (h : GKeep B w f a k) : FOwn w f a ∧ FKids w f k := h.1.self
end Go.Proofs.YtfkepclgadeeeaaGreatDoor

/-
  The program's reader of any text: an item, walked.
-/
namespace Go.Proofs.YtfkepclgadeeeaaGreatDoor
open Go.RowKit Go.Shelf

/-- an item as it is read: it stands in blocks of its own; or a new fault -/
def ItPost (w : World) (R : Nat) (s : ByteArray) (k : Nat) (o : Tr OwnF) (e : Ending) (w' : World) : Prop :=
  Only (fun g => g = R) w w' ∧ match o with
  | .ok a q => ∃ f : F9, e = .returned (.tuple #[.agg f.arr, .nilIface]) ∧ RdT w' R s q k ∧ GKeep (news w w') w' f a .nil
  | .bad c p => ∃ g q f, e = .returned (.tuple #[.agg (F9.arr f), errV g]) ∧ w.heap.size ≤ g ∧ FtAt w' g c p ⟨#[]⟩ ∧ RdT w' R s q k
/-- what stands behind an item's switch -/
def SwP (w : World) (R : Nat) (s : ByteArray) (k : Nat) (o : Tr OwnF) (v : Value) (wx : World) : Prop :=
  Only (fun g => g = R ∨ w.heap.size ≤ g) w wx ∧ match o with
  | .ok a q => v = .nilIface ∧ RdT wx R s q k ∧ FlO (fun g => w.heap.size + 1 ≤ g) wx w.heap.size a ∧ Short a
  | .bad c p => ∃ g q f, v = errV g ∧ w.heap.size + 1 ≤ g ∧ FtAt wx g c p ⟨#[]⟩ ∧ RdT wx R s q k ∧ FlT wx w.heap.size f
theorem keep_flo {w w' : World} {a : OwnF} {ma : Option Addr} {mn mc : Nat} (row : RowS w' (fun g => w.heap.size + 1 ≤ g) (.slice ma mn mc) a.ms) (hs : Short a) : GKeep (news w w') w' ⟨a.kind, none, 0, 0, a.desc, a.value, a.start, ma, mn, mc, a.fin, a.rule, a.dn⟩ a .nil := by
  refine ⟨?_, sep_mids row (fun g hg => ⟨by have := row.2 g hg; omega, Row.lt row hg⟩)⟩
  intro W hW
  have hrow : RowS W (fun g => w.heap.size + 1 ≤ g) (.slice ma mn mc) a.ms := Row.alike row (fun g hg => hW g ⟨by have := row.2 g hg; omega, Row.lt row hg⟩)
  obtain ⟨s1, s2, s3, s4, s5, s6, s7, s8⟩ := hs
  exact ⟨⟨rfl, rfl, rfl, rfl, rfl, rfl, rfl, ⟨by show a.desc.size ≤ _; omega, by show a.value.size ≤ _; omega, by show a.start.size ≤ _; omega, by show a.fin.size ≤ _; omega, by show a.rule.size ≤ _; omega⟩, hrow.ssl, (fun m hm => by have := s6 m hm; omega), by omega, by omega⟩, rfl, Nat.le_refl _, Nat.zero_le _, .inl rfl⟩
/-- the filter is put back, and handed on -/
theorem item_end {w wx : World} {R : Nat} {s : ByteArray} {k : Nat} {o : Tr OwnF} {v : Value} (h : SwP w R s k o v wx) (hR : R < w.heap.size) : ∃ f, FlT wx w.heap.size f ∧ ∀ tm : Array Value, tm.getD 2 undef = .pointer (some ⟨w.heap.size, 0, none⟩) → tm.getD 3 undef = v → bodyPost Tryz.prog Tryz.f63 (ItPost w R s k o) .ret ⟨tm, []⟩ (putF wx w.heap.size f) := by
  obtain ⟨h1, h2⟩ := h
  cases o with
  | ok a q =>
    obtain ⟨rfl, r, ⟨ma, mn, mc, f1, row⟩, hs⟩ := h2
    refine ⟨_, f1, fun tm h3 h4 => ?_⟩
    have f6 := f1.put ⟨a.kind, none, 0, 0, a.desc, a.value, a.start, ma, mn, mc, a.fin, a.rule, a.dn⟩
    have o6 := put_only wx w.heap.size ⟨a.kind, none, 0, 0, a.desc, a.value, a.start, ma, mn, mc, a.fin, a.rule, a.dn⟩
    refine bodyPost_ret (results_fl rfl _ _ w.heap.size _ rfl h3 f6) rfl ?_
    rw [h4]
    exact ⟨(h1.then (o6.mono fun g _ h => .inr (by omega))).mono fun g hg h => h.elim id (fun h => by omega), _, rfl, r.only o6 (by omega), keep_flo (Row.kept row o6 (fun g hg e => by omega)) hs⟩
  | bad c p =>
    obtain ⟨g, q, f, rfl, hg, hft, r, f1⟩ := h2
    refine ⟨f, f1, fun tm h3 h4 => ?_⟩
    have f6 := f1.put f
    have o6 := put_only wx w.heap.size f
    refine bodyPost_ret (results_fl rfl _ _ w.heap.size _ rfl h3 f6) rfl ?_
    rw [h4]
    exact ⟨(h1.then (o6.mono fun g _ h => .inr (by omega))).mono fun g hg h => h.elim id (fun h => by omega), g, q, f, rfl, by omega, hft.only o6 (by omega), r.only o6 (by omega)⟩
/-- a step that is told over a filter without lists -/
theorem sw_f9 {w w1 w2 : World} {R : Nat} {s : ByteArray} {k : Nat} {o : Tr F9} {v : Value} (o1 : Only (fun g => g = R ∨ w.heap.size ≤ g) w w1) (hsz : w.heap.size + 1 ≤ w1.heap.size) (hb : ∀ f q, o = .ok f q → Bare f ∧ Short (f9O f)) (h : FPost w1 R w.heap.size s k o (.returned v) w2) : SwP w R s k (o.bind fun f r => .ok (f9O f) r) v w2 := by
  obtain ⟨h1, h2⟩ := h
  have hon : Only (fun g => g = R ∨ w.heap.size ≤ g) w w2 := o1.then (h1.mono fun g _ h => h.elim .inl (fun h => .inr (by omega)))
  cases o with
  | ok f q =>
    obtain ⟨e, r, f2⟩ := h2
    obtain ⟨⟨b1, b2, b3, b4, b5, b6⟩, hs⟩ := hb f q rfl
    obtain ⟨kind, ka, kn, kc, desc, value, start, ma, mn, mc, fin, rule, dn⟩ := f
    simp only at b1 b2 b3 b4 b5 b6
    subst b1 b2 b3 b4 b5 b6
    exact ⟨hon, Ending.returned.inj e, r, ⟨none, 0, 0, f2, row_nil _ _ _ _⟩, hs⟩
  | bad c p =>
    obtain ⟨g, q, f, e, hg, hft, r, f2⟩ := h2
    exact ⟨hon, g, q, f, Ending.returned.inj e, by omega, hft, r, f2⟩
theorem sw_o {w w1 w2 : World} {R : Nat} {s : ByteArray} {k : Nat} {o : Tr OwnF} {v : Value} (o1 : Only (fun g => g = R ∨ w.heap.size ≤ g) w w1) (hsz : w.heap.size + 1 ≤ w1.heap.size) (hb : ∀ a q, o = .ok a q → Short a) (h : OPost (w.heap.size + 1) w1 R w.heap.size s k o (.returned v) w2) : SwP w R s k o v w2 := by
  obtain ⟨h1, h2⟩ := h
  have hon : Only (fun g => g = R ∨ w.heap.size ≤ g) w w2 := o1.then (h1.mono fun g _ h => by rcases h with h | h | h; exact .inl h; exact .inr (by omega); exact .inr (by omega))
  cases o with
  | ok a q =>
    obtain ⟨e, r, f2⟩ := h2
    exact ⟨hon, Ending.returned.inj e, r, f2, hb a q rfl⟩
  | bad c p =>
    obtain ⟨g, q, a, e, hg, hft, r, ma, mn, mc, f2, row⟩ := h2
    exact ⟨hon, g, q, _, Ending.returned.inj e, by omega, hft, r, f2⟩
end Go.Proofs.YtfkepclgadeeeaaGreatDoor

/-
  The program's reader of any text: an item of any kind.
-/
namespace Go.Proofs.YtfkepclgadeeeaaGreatDoor
open Go.RowKit Go.Shelf

/-- the description as it is laid into the filter -/
def HdP (w : World) (R : Nat) (s : ByteArray) (k : Nat) (o : Tr ByteArray) (v : Value) (wx : World) : Prop :=
  Only (fun g => g = R ∨ w.heap.size ≤ g) w wx ∧ w.heap.size + 1 ≤ wx.heap.size ∧ match o with
  | .ok d q => v = .nilIface ∧ RdT wx R s q k ∧ FlT wx w.heap.size (dF d)
  | .bad c p => ∃ g q, v = errV g ∧ w.heap.size + 1 ≤ g ∧ FtAt wx g c p ⟨#[]⟩ ∧ RdT wx R s q k ∧ FlT wx w.heap.size (dF ⟨#[]⟩)
theorem OPost.ret {H : Nat} {w w' : World} {R F : Nat} {s : ByteArray} {k : Nat} {o : Tr OwnF} {e : Ending} (h : OPost H w R F s k o e w') : ∃ v, e = .returned v := by
  cases o with
  | ok a q => exact ⟨_, h.2.1⟩
  | bad c p => obtain ⟨g, q, a, e, -⟩ := h.2; exact ⟨_, e⟩
theorem FPost.ret {w w' : World} {R F : Nat} {s : ByteArray} {k : Nat} {o : Tr F9} {e : Ending} (h : FPost w R F s k o e w') : ∃ v, e = .returned v := by
  cases o with
  | ok a q => exact ⟨_, h.2.1⟩
  | bad c p => obtain ⟨g, q, a, e, -⟩ := h.2; exact ⟨_, e⟩
set_option maxRecDepth 100000 in
set_option maxHeartbeats 8000000 in
theorem item_any (w : World) (R : Nat) (s : ByteArray) (p k : Nat) (hr : RdT w R s p k) (hs : s.size ≤ 8796093022000) (hp : p ≤ s.size) (g off cap : Nat) (ht : Tab w g off cap) (hg : g ≠ R) (hG : 1 ≠ R) :
    Calls Tryz.prog 63 #[.pointer (some ⟨R, 0, none⟩)] w (ItPost w R s k (itemR s p)) := by
  have hrl := hr.lt
  have hgl : g < w.heap.size := World.block_lt_of_cell? w _ (ht.c0 0 (by omega))
  have hGl : 1 < w.heap.size := World.block_lt_of_cell? w _ ht.var
  have hN := fun W (y : RdT W R s p k) => isNext_any W R s p k 58 y
  have hD := fun W (y : RdT W R s p k) => descR_any W R s p k y (by omega) hp
  have hT := fun b W q (y : RdT W R s q k) => take_any W R s q k b y (by omega)
  have hO : ∀ a q, itemR s p = .ok a q → Short a := fun a q h => (itemR_ok h hp).1
  have hOh : Hid (∀ a q, itemR s p = .ok a q → Short a) := hO
  obtain ⟨o, ho⟩ : ∃ o, Hid (o = itemR s p) := ⟨_, rfl⟩
  have hth : Hid (Tab w g off cap) := ht
  rw [← ho.out]
  have f0 := fl_new w
  have x0 := (Ext.refl w).alloc (.cells #[.int .i8 0, .slice none 0 0, .string ⟨#[]⟩, .string ⟨#[]⟩, .string ⟨#[]⟩, .slice none 0 0, .string ⟨#[]⟩, .string ⟨#[]⟩, .bool false] 26)
  have r0 := hr.ext x0
  have s0 : Hid ((w.alloc (.cells #[.int .i8 0, .slice none 0 0, .string ⟨#[]⟩, .string ⟨#[]⟩, .string ⟨#[]⟩, .slice none 0 0, .string ⟨#[]⟩, .string ⟨#[]⟩, .bool false] 26)).heap.size = w.heap.size + 1) := World.size_alloc _ _
  clear hr hO ht
  go_enter Tryz.func63, Tryz.ntmps63
  go_wp2_with fail
  generalize w.alloc _ = w0 at f0 x0 r0 s0 ⊢
  go_at_call 60
  refine (hN _ r0).mono ?_
  rintro _ _ ⟨rfl, m, rfl⟩
  have f1 : FlT (w0.drewN m) w.heap.size F9.zero := f0
  have r1 := r0.drewN m
  have x1 := x0.drewN m
  have s1 : Hid ((w0.drewN m).heap.size = w.heap.size + 1) := s0
  clear f0 r0 x0 s0 hN
  generalize w0.drewN m = w1 at f1 r1 x1 s1 ⊢
  go_upto_if 6 with fail
  go_cut [3] (fun v3 wx => HdP w R s k (headR s p) v3 wx)
  case first =>
    cases h58 : hdIs 58 ((byt s).drop p) with
    | true =>
      go_wp2
      go_meet
      show HdP w R s k (headR s p) _ _
      unfold headR
      rw [h58]
      exact ⟨x1.only, by rw [s1.out]; exact Nat.le_refl _, rfl, r1, f1⟩
    | false =>
      have hh : Hid (headR s p = descR s p) := by
        show _ = _
        unfold headR
        rw [h58]
        rfl
      have hD1 := hD w1 r1
      generalize descR s p = u at hD1 hh
      cases u with
      | ok d q =>
        obtain ⟨-, -, d2, -, -, -, -, -, -, fz⟩ := f1.cells
        go_wp2_with fail
        go_at_call 31
        refine hD1.mono ?_
        rintro _ w2 ⟨o2, rfl, r2⟩
        have f2 := f1.only o2 (by omega)
        have oS := setOnly w2 w.heap.size 2 (.string d)
        have hz : Hid (HdP w R s k (.ok d q) .nilIface (w2.setCell ⟨w.heap.size, 2, none⟩ (.string d))) :=
          ⟨(x1.only.then (o2.mono fun _ _ h => .inl h)).then (oS.mono fun g _ h => .inr (by omega)), by have := o2.size; have := oS.size; have := s1.out; omega, rfl, r2.only oS (by omega), f2.set2 d⟩
        clear d2 fz
        obtain ⟨-, -, d2, -, -, -, -, -, -, fz⟩ := f2.cells
        have fz2 := fz 2
        clear oS fz f2 r2 o2 hD1
        go_wp2
        go_meet
        show HdP w R s k (headR s p) _ _
        rw [hh.out]
        exact hz.out
      | bad c a =>
        obtain ⟨-, -, d2, -, -, -, -, -, -, fz⟩ := f1.cells
        go_wp2_with fail
        go_at_call 31
        refine hD1.mono ?_
        rintro _ w2 ⟨o2, g2, q, rfl, h1, h2, r2⟩
        have f2 := f1.only o2 (by omega)
        have oS := setOnly w2 w.heap.size 2 (.string ⟨#[]⟩)
        have hsz1 := s1.out
        have hz : Hid (HdP w R s k (.bad c a) (errV g2) (w2.setCell ⟨w.heap.size, 2, none⟩ (.string ⟨#[]⟩))) :=
          ⟨(x1.only.then (o2.mono fun _ _ h => .inl h)).then (oS.mono fun g _ h => .inr (by omega)), by have := o2.size; have := oS.size; omega, g2, q, rfl, by omega, h2.only oS (by omega), r2.only oS (by omega), f2.set2 _⟩
        clear d2 fz
        obtain ⟨-, -, d2, -, -, -, -, -, -, fz⟩ := f2.cells
        have fz2 := fz 2
        clear oS fz f2 r2 o2 hD1 h2
        unfold errV at hz ⊢
        go_wp2
        go_meet
        show HdP w R s k (headR s p) _ _
        rw [hh.out]
        exact hz.out
  case rest =>
    clear f1 r1 x1 s1 hD
    have hHd := fun d q (h : headR s p = .ok d q) => headR_ok h hp
    have hoe : Hid (o = (headR s p).bind fun d q => signR s d q) := ho.out
    generalize headR s p = u at hcut hHd hoe
    cases u with
    | bad c a =>
      simp only [Tr.bad_bind] at hoe
      obtain ⟨o2, hz2, g2, q, rfl, h1, h2, r2, f2⟩ := hcut
      obtain ⟨f, f3, hend⟩ := item_end (w := w) (R := R) (s := s) (k := k) (o := o) (v := errV g2) (wx := wc) ⟨o2, by rw [hoe.out]; exact ⟨g2, q, _, rfl, h1, h2, r2, f2⟩⟩ hrl
      have hendh : Hid _ := hend
      obtain ⟨d0, d1, d2, d3, d4, d5, d6, d7, d8, fz⟩ := f3.cells
      clear hend r2 h2 f2 f3 o2
      unfold errV at hendh ⊢
      go_wp2
      exact hendh.out _ rfl rfl
    | ok d q =>
      simp only [Tr.ok_bind] at hoe
      obtain ⟨o2, hz2, rfl, r2, f2⟩ := hcut
      obtain ⟨hd, hq⟩ := hHd d q rfl
      obtain ⟨d', hd'⟩ : ∃ d', Hid (d' = d) := ⟨_, rfl⟩
      rw [← hd'.out] at f2 hoe hd
      have hsS : Short (f9O (dF d')) := dF_short hd
      have t2 : Hid (Tab wc g off cap) := hth.out.only o2 (fun e => by omega) (fun e => by omega)
      go_upto_block 0 with fail
      go_cut [3] (fun v3 wx => SwP w R s k o v3 wx)
      case first =>
        cases h61 : hdIs 61 ((byt s).drop q) with
        | true =>
          have hA := hT 61 wc q r2
          rw [h61] at hA
          simp only [↓reduceIte] at hA
          have hq1 : q + 1 ≤ s.size := by have := hdIs_lt h61; omega
          have hoq : Hid (o = eqR s (f9O (dF d')) (q + 1)) := by show _ = _; rw [hoe.out]; unfold signR; rw [if_pos h61]
          clear h61
          go_wp2_with fail
          go_at_call 52
          refine hA.mono ?_
          rintro _ w7 ⟨rfl, r7, o7⟩
          have f7 := f2.only o7 (by omega)
          have t7 : Tab w7 g off cap := t2.out.only o7 hg hG
          have hs7 : w.heap.size + 1 ≤ w7.heap.size := Nat.le_trans hz2 o7.size
          have on7 := o2.then (o7.mono fun _ _ h => .inl h)
          have hE := eq_any w7 (w.heap.size + 1) R w.heap.size s (q + 1) k (f9O (dF d')) r7 ⟨none, 0, 0, f7, row_nil _ _ _ _⟩ ⟨rfl, rfl⟩ hs hq1 g off cap t7 ⟨by omega, by omega, by omega, hs7, hg, by omega, by omega, hG, by omega, by omega⟩
          go_wp2_with fail
          go_at_call 78
          refine hE.mono ?_
          intro e w8 h8
          obtain ⟨v8, rfl⟩ := h8.ret
          have hz : Hid (SwP w R s k o v8 w8) := sw_o on7 hs7 (fun a r h => by rw [hoq.out] at h; exact (eqR_ok h hsS hq1).1) (by rw [hoq.out]; exact h8)
          clear h8 hE
          go_wp2
          go_meet
          exact hz.out
        | false =>
          have hA := hT 61 wc q r2
          rw [h61] at hA
          simp only [Bool.false_eq_true, ↓reduceIte] at hA
          have h61h : Hid (hdIs 61 ((byt s).drop q) = false) := h61
          clear h61
          go_wp2_with fail
          go_at_call 52
          refine hA.mono ?_
          rintro _ w161 ⟨rfl, r161, x161⟩
          have f161 := f2.only x161 (by omega)
          have t161 : Hid (Tab w161 g off cap) := t2.out.only x161 hg hG
          have hz161 : w.heap.size + 1 ≤ w161.heap.size := Nat.le_trans hz2 x161.size
          have o161 := o2.then (x161.mono fun _ _ h => .inl h)
          clear hA r2 f2 t2 o2 x161 hz2
          cases h126 : hdIs 126 ((byt s).drop q) with
          | true =>
            have hA := hT 126 w161 q r161
            rw [h126] at hA
            simp only [↓reduceIte] at hA
            have hq1 : q + 1 ≤ s.size := by have := hdIs_lt h126; omega
            have hoq : Hid (o = (agR s 8 (dF d') (q + 1)).bind fun f r => .ok (f9O f) r) := by show _ = _; rw [hoe.out]; unfold signR; rw [if_neg (by rw [h61h.out]; decide)]; rw [if_pos h126]
            clear h126
            go_wp2_with fail
            go_at_call 52
            refine hA.mono ?_
            rintro _ w7 ⟨rfl, r7, o7⟩
            have f7 := f161.only o7 (by omega)
            have t7 : Tab w7 g off cap := t161.out.only o7 hg hG
            have hs7 : w.heap.size + 1 ≤ w7.heap.size := Nat.le_trans hz161 o7.size
            have on7 := o161.then (o7.mono fun _ _ h => .inl h)
            have hE := ag_any w7 R w.heap.size s (q + 1) k 8 (dF d') r7 f7 (by omega) (by omega) g off cap t7 hg hG (by omega) (by omega)
            go_wp2_with fail
            go_at_call 79
            refine hE.mono ?_
            intro e w8 h8
            obtain ⟨v8, rfl⟩ := h8.ret
            have hz : Hid (SwP w R s k o v8 w8) := by rw [hoq.out]; exact sw_f9 on7 hs7 (fun f r h => by obtain ⟨x, rfl, hx, -⟩ := agR_ok h; exact ⟨⟨rfl, rfl, rfl, rfl, rfl, rfl⟩, hd, hx, Nat.zero_le _, Nat.zero_le _, Nat.zero_le _, (fun m hm => by cases hm), by show (0 : Int) ≤ 8; decide, by show (8 : Int) ≤ 9; decide⟩) h8
            clear h8 hE
            go_wp2
            go_meet
            exact hz.out
          | false =>
            have hA := hT 126 w161 q r161
            rw [h126] at hA
            simp only [Bool.false_eq_true, ↓reduceIte] at hA
            have h126h : Hid (hdIs 126 ((byt s).drop q) = false) := h126
            clear h126
            go_wp2_with fail
            go_at_call 52
            refine hA.mono ?_
            rintro _ w226 ⟨rfl, r226, x226⟩
            have f226 := f161.only x226 (by omega)
            have t226 : Hid (Tab w226 g off cap) := t161.out.only x226 hg hG
            have hz226 : w.heap.size + 1 ≤ w226.heap.size := Nat.le_trans hz161 x226.size
            have o226 := o161.then (x226.mono fun _ _ h => .inl h)
            clear hA r161 f161 t161 o161 x226 hz161
            cases h62 : hdIs 62 ((byt s).drop q) with
            | true =>
              have hA := hT 62 w226 q r226
              rw [h62] at hA
              simp only [↓reduceIte] at hA
              have hq1 : q + 1 ≤ s.size := by have := hdIs_lt h62; omega
              have hoq : Hid (o = (agR s 5 (dF d') (q + 1)).bind fun f r => .ok (f9O f) r) := by show _ = _; rw [hoe.out]; unfold signR; rw [if_neg (by rw [h61h.out]; decide)]; rw [if_neg (by rw [h126h.out]; decide)]; rw [if_pos h62]
              clear h62
              go_wp2_with fail
              go_at_call 52
              refine hA.mono ?_
              rintro _ w7 ⟨rfl, r7, o7⟩
              have f7 := f226.only o7 (by omega)
              have t7 : Tab w7 g off cap := t226.out.only o7 hg hG
              have hs7 : w.heap.size + 1 ≤ w7.heap.size := Nat.le_trans hz226 o7.size
              have on7 := o226.then (o7.mono fun _ _ h => .inl h)
              have hE := ag_any w7 R w.heap.size s (q + 1) k 5 (dF d') r7 f7 (by omega) (by omega) g off cap t7 hg hG (by omega) (by omega)
              go_wp2_with fail
              go_at_call 79
              refine hE.mono ?_
              intro e w8 h8
              obtain ⟨v8, rfl⟩ := h8.ret
              have hz : Hid (SwP w R s k o v8 w8) := by rw [hoq.out]; exact sw_f9 on7 hs7 (fun f r h => by obtain ⟨x, rfl, hx, -⟩ := agR_ok h; exact ⟨⟨rfl, rfl, rfl, rfl, rfl, rfl⟩, hd, hx, Nat.zero_le _, Nat.zero_le _, Nat.zero_le _, (fun m hm => by cases hm), by show (0 : Int) ≤ 5; decide, by show (5 : Int) ≤ 9; decide⟩) h8
              clear h8 hE
              go_wp2
              go_meet
              exact hz.out
            | false =>
              have hA := hT 62 w226 q r226
              rw [h62] at hA
              simp only [Bool.false_eq_true, ↓reduceIte] at hA
              have h62h : Hid (hdIs 62 ((byt s).drop q) = false) := h62
              clear h62
              go_wp2_with fail
              go_at_call 52
              refine hA.mono ?_
              rintro _ w162 ⟨rfl, r162, x162⟩
              have f162 := f226.only x162 (by omega)
              have t162 : Hid (Tab w162 g off cap) := t226.out.only x162 hg hG
              have hz162 : w.heap.size + 1 ≤ w162.heap.size := Nat.le_trans hz226 x162.size
              have o162 := o226.then (x162.mono fun _ _ h => .inl h)
              clear hA r226 f226 t226 o226 x162 hz226
              cases h60 : hdIs 60 ((byt s).drop q) with
              | true =>
                have hA := hT 60 w162 q r162
                rw [h60] at hA
                simp only [↓reduceIte] at hA
                have hq1 : q + 1 ≤ s.size := by have := hdIs_lt h60; omega
                have hoq : Hid (o = (agR s 6 (dF d') (q + 1)).bind fun f r => .ok (f9O f) r) := by show _ = _; rw [hoe.out]; unfold signR; rw [if_neg (by rw [h61h.out]; decide)]; rw [if_neg (by rw [h126h.out]; decide)]; rw [if_neg (by rw [h62h.out]; decide)]; rw [if_pos h60]
                clear h60
                go_wp2_with fail
                go_at_call 52
                refine hA.mono ?_
                rintro _ w7 ⟨rfl, r7, o7⟩
                have f7 := f162.only o7 (by omega)
                have t7 : Tab w7 g off cap := t162.out.only o7 hg hG
                have hs7 : w.heap.size + 1 ≤ w7.heap.size := Nat.le_trans hz162 o7.size
                have on7 := o162.then (o7.mono fun _ _ h => .inl h)
                have hE := ag_any w7 R w.heap.size s (q + 1) k 6 (dF d') r7 f7 (by omega) (by omega) g off cap t7 hg hG (by omega) (by omega)
                go_wp2_with fail
                go_at_call 79
                refine hE.mono ?_
                intro e w8 h8
                obtain ⟨v8, rfl⟩ := h8.ret
                have hz : Hid (SwP w R s k o v8 w8) := by rw [hoq.out]; exact sw_f9 on7 hs7 (fun f r h => by obtain ⟨x, rfl, hx, -⟩ := agR_ok h; exact ⟨⟨rfl, rfl, rfl, rfl, rfl, rfl⟩, hd, hx, Nat.zero_le _, Nat.zero_le _, Nat.zero_le _, (fun m hm => by cases hm), by show (0 : Int) ≤ 6; decide, by show (6 : Int) ≤ 9; decide⟩) h8
                clear h8 hE
                go_wp2
                go_meet
                exact hz.out
              | false =>
                have hA := hT 60 w162 q r162
                rw [h60] at hA
                simp only [Bool.false_eq_true, ↓reduceIte] at hA
                have h60h : Hid (hdIs 60 ((byt s).drop q) = false) := h60
                clear h60
                go_wp2_with fail
                go_at_call 52
                refine hA.mono ?_
                rintro _ w160 ⟨rfl, r160, x160⟩
                have f160 := f162.only x160 (by omega)
                have t160 : Hid (Tab w160 g off cap) := t162.out.only x160 hg hG
                have hz160 : w.heap.size + 1 ≤ w160.heap.size := Nat.le_trans hz162 x160.size
                have o160 := o162.then (x160.mono fun _ _ h => .inl h)
                clear hA r162 f162 t162 o162 x160 hz162
                have hoq : Hid (o = (ruledR s (dF d') q).bind fun f r => .ok (f9O f) r) := by show _ = _; rw [hoe.out]; unfold signR; rw [if_neg (by rw [h61h.out]; decide)]; rw [if_neg (by rw [h126h.out]; decide)]; rw [if_neg (by rw [h62h.out]; decide)]; rw [if_neg (by rw [h60h.out]; decide)]
                have hE := ru_any w160 R w.heap.size s q k (dF d') r160 f160 (by omega) (by omega) hq g off cap t160.out hg hG (by omega) (by omega)
                go_wp2_with fail
                go_at_call 80
                refine hE.mono ?_
                intro e w8 h8
                obtain ⟨v8, rfl⟩ := h8.ret
                have hz : Hid (SwP w R s k o v8 w8) := by rw [hoq.out]; exact sw_f9 o160 hz160 (fun f r h => by have := ruGo_ok h ⟨rfl, rfl, rfl, rfl, rfl, rfl⟩ ⟨hd, Nat.zero_le _, Nat.zero_le _, Nat.zero_le _, Nat.zero_le _, (fun m hm => by cases hm), by show (0 : Int) ≤ 9; decide, by show (9 : Int) ≤ 9; decide⟩ hq; exact ⟨this.1, this.2.1⟩) h8
                clear h8 hE
                go_wp2
                go_meet
                exact hz.out
      case rest =>
        clear r2 f2 o2 t2
        obtain ⟨f, f3, hend⟩ := item_end hcut hrl
        have hendh : Hid _ := hend
        obtain ⟨d0, d1, d2, d3, d4, d5, d6, d7, d8, fz⟩ := f3.cells
        clear hend hcut f3
        go_wp2
        exact hendh.out _ rfl rfl
end Go.Proofs.YtfkepclgadeeeaaGreatDoor
