/-
 A filter that was made by a call: each of its slices is an own row, and no two of them share a block.
-/
import Derived.Test.YthjgfpkmfmoheaaGreatDoorRq
namespace Go.Proofs.YthjgfpkmfmoheaaGreatDoor
open Go.RowKit Go.Shelf

theorem Row.like {w w' : World} {S : Nat → Prop} {e : TypeId} {sz : Nat} {v : Value} {n : Nat} {xs : List Value} (h : Row w S e sz v n xs) (k : ∀ g, own v g → w'.heap[g]? = w.heap[g]?) : Row w' S e sz v n xs := by
 refine ⟨⟨h.1.1, ?_⟩, h.2⟩
 rcases h.1.2 with h1 | ⟨g, cap, cur, rfl, h2, hg, h3⟩
 · exact .inl h1
 · exact .inr ⟨g, cap, cur, rfl, h2, (k g (by simp [own, Value.ownBlock])).trans hg, h3⟩
def Row9 (w : World) (v : Value) (fs : List F9) : Prop := Row w (own v) 27 9 v fs.length (fs.flatMap fun f => f.arr.toList) ∧ fs.length ≤ 1048576
theorem Row9.like {w w' : World} {v : Value} {fs : List F9} (h : Row9 w v fs) (k : ∀ g, own v g → w'.heap[g]? = w.heap[g]?) : Row9 w' v fs := ⟨Row.like h.1 k, h.2⟩
def RowM (w : World) (f : F9) : Prop := ∃ xs, Row w (own f.mids) 9 1 f.mids f.mn xs ∧ f.mn ≤ 1048576
theorem RowM.like {w w' : World} {f : F9} (h : RowM w f) (k : ∀ g, own f.mids g → w'.heap[g]? = w.heap[g]?) : RowM w' f := by
 obtain ⟨xs, h1, h2⟩ := h
 exact ⟨xs, Row.like h1 k, h2⟩
theorem RowM.lt {w : World} {f : F9} (h : RowM w f) {g : Nat} (hg : own f.mids g) : g < w.heap.size := by
 obtain ⟨xs, h1, -⟩ := h
 exact Row.lt h1 hg
theorem row9_nil (w : World) : Row9 w (.slice none 0 0) [] := ⟨row_nil _ _ _ _, Nat.zero_le _⟩
def SepC (w : World) : FT → (Nat → Prop) → List F9 → Prop
 | .nil, _, fs => fs = []
 | .cons _ kids rest, U, fs => ∃ (f : F9) (ks fs' : List F9) (U1 U2 Us : Nat → Prop), fs = f :: fs' ∧ (∀ g, U1 g → U g ∧ ¬ U2 g) ∧ (∀ g, U2 g → U g) ∧
     (RowM w f ∧ Row9 w f.kids ks ∧ (∀ g, own f.mids g → U1 g ∧ ¬ Us g) ∧ (∀ g, own f.kids g → U1 g ∧ ¬ Us g) ∧ (∀ g, Us g → U1 g) ∧ SepC w kids Us ks) ∧ SepC w rest U2 fs'
def Sep (U : Nat → Prop) (w : World) (f : F9) (k : FT) : Prop := ∃ (ks : List F9) (Us : Nat → Prop), RowM w f ∧ Row9 w f.kids ks ∧ (∀ g, own f.mids g → U g ∧ ¬ Us g) ∧ (∀ g, own f.kids g → U g ∧ ¬ Us g) ∧ (∀ g, Us g → U g) ∧ SepC w k Us ks
theorem SepC.cons {w : World} {a : OwnF} {kids rest : FT} {U U1 U2 : Nat → Prop} {f : F9} {fs : List F9} (h : Sep U1 w f kids) (h1 : ∀ g, U1 g → U g ∧ ¬ U2 g) (h2 : ∀ g, U2 g → U g) (hr : SepC w rest U2 fs) : SepC w (.cons a kids rest) U (f :: fs) := by
 obtain ⟨ks, Us, k1, k2, k3, k4, k5, k6⟩ := h
 exact ⟨f, ks, fs, U1, U2, Us, rfl, h1, h2, ⟨k1, k2, k3, k4, k5, k6⟩, hr⟩
theorem SepC.split {w : World} {a : OwnF} {kids rest : FT} {U : Nat → Prop} {fs : List F9} (h : SepC w (.cons a kids rest) U fs) : ∃ (f : F9) (fs' : List F9) (U1 U2 : Nat → Prop), fs = f :: fs' ∧ (∀ g, U1 g → U g ∧ ¬ U2 g) ∧ (∀ g, U2 g → U g) ∧ Sep U1 w f kids ∧ SepC w rest U2 fs' := by
 obtain ⟨f, ks, fs', U1, U2, Us, h1, h2, h3, ⟨k1, k2, k3, k4, k5, k6⟩, h5⟩ := h
 exact ⟨f, fs', U1, U2, h1, h2, h3, ⟨ks, Us, k1, k2, k3, k4, k5, k6⟩, h5⟩
theorem SepC.next {w w' : World} : ∀ (k : FT) (U : Nat → Prop) (fs : List F9), SepC w k U fs → (∀ g, U g → g < w.heap.size → w'.heap[g]? = w.heap[g]?) → SepC w' k U fs
 | .nil, _, _, h, _ => h
 | .cons a kids rest, U, fs, h, hw => by
   obtain ⟨f, ks, fs', U1, U2, Us, h1, h2, h3, ⟨k1, k2, k3, k4, k5, k6⟩, h5⟩ := h
   exact ⟨f, ks, fs', U1, U2, Us, h1, h2, h3, ⟨k1.like (fun g hg => hw g (h2 g (k3 g hg).1).1 (k1.lt hg)), k2.like (fun g hg => hw g (h2 g (k4 g hg).1).1 (Row.lt k2.1 hg)), k3, k4, k5, SepC.next kids Us ks k6 (fun g hg => hw g (h2 g (k5 g hg)).1)⟩, SepC.next rest U2 fs' h5 (fun g hg => hw g (h3 g hg))⟩
theorem SepC.wide {w : World} : ∀ (k : FT) (U U' : Nat → Prop) (fs : List F9), SepC w k U fs → (∀ g, U g → U' g) → SepC w k U' fs
 | .nil, _, _, _, h, _ => h
 | .cons _ kids rest, U, U', fs, h, hU => by
   obtain ⟨f, ks, fs', U1, U2, Us, h1, h2, h3, h4, h5⟩ := h
   exact ⟨f, ks, fs', U1, U2, Us, h1, fun g hg => ⟨hU g (h2 g hg).1, (h2 g hg).2⟩, fun g hg => hU g (h3 g hg), h4, h5⟩
theorem Sep.next {w w' : World} {U : Nat → Prop} {f : F9} {k : FT} (h : Sep U w f k) (hw : ∀ g, U g → g < w.heap.size → w'.heap[g]? = w.heap[g]?) : Sep U w' f k := by
 obtain ⟨ks, Us, k1, k2, k3, k4, k5, k6⟩ := h
 exact ⟨ks, Us, k1.like (fun g hg => hw g (k3 g hg).1 (k1.lt hg)), k2.like (fun g hg => hw g (k4 g hg).1 (Row.lt k2.1 hg)), k3, k4, k5, k6.next k Us ks (fun g hg => hw g (k5 g hg))⟩
theorem Sep.wide {w : World} {U U' : Nat → Prop} {f : F9} {k : FT} (h : Sep U w f k) (hU : ∀ g, U g → U' g) : Sep U' w f k := by
 obtain ⟨ks, Us, k1, k2, k3, k4, k5, k6⟩ := h
 exact ⟨ks, Us, k1, k2, fun g hg => ⟨hU g (k3 g hg).1, (k3 g hg).2⟩, fun g hg => ⟨hU g (k4 g hg).1, (k4 g hg).2⟩, fun g hg => hU g (k5 g hg), k6⟩
def FT.snoc : FT → OwnF → FT → FT
 | .nil, a, k => .cons a k .nil
 | .cons b l r, a, k => .cons b l (r.snoc a k)
theorem SepC.snoc {w : World} {a : OwnF} {kid : FT} {f : F9} {V : Nat → Prop} (hf : Sep V w f kid) : ∀ (k : FT) (U : Nat → Prop) (fs : List F9), SepC w k U fs → (∀ g, U g → ¬ V g) → SepC w (k.snoc a kid) (fun g => U g ∨ V g) (fs ++ [f])
 | .nil, U, fs, h, hd => by
   subst h
   exact SepC.cons hf (U2 := fun _ => False) (fun g hg => ⟨.inr hg, id⟩) (fun g hg => hg.elim) rfl
 | .cons b l r, U, fs, h, hd => by
   obtain ⟨f', fs', U1, U2, rfl, h2, h3, h4, h5⟩ := h.split
   refine SepC.cons h4 (U2 := fun g => U2 g ∨ V g) (fun g hg => ⟨.inl (h2 g hg).1, fun hx => hx.elim (h2 g hg).2 (hd g (h2 g hg).1)⟩) (fun g hg => hg.imp (h3 g) id) (SepC.snoc hf r U2 fs' h5 (fun g hg => hd g (h3 g hg)))
theorem sep_none (U : Nat → Prop) (w : World) (k : Int) (d v s e r : ByteArray) (b : Bool) : Sep U w ⟨k, none, 0, 0, d, v, s, none, 0, 0, e, r, b⟩ .nil :=
 ⟨[], fun _ => False, ⟨[], row_nil _ _ _ _, Nat.zero_le _⟩, row9_nil _, fun g hg => by simp [own, F9.mids, Value.ownBlock] at hg, fun g hg => by simp [own, F9.kids, Value.ownBlock] at hg, fun g hg => hg.elim, rfl⟩
theorem sep_mids {U S : Nat → Prop} {w : World} {k : Int} {d v s e r : ByteArray} {b : Bool} {ma : Option Addr} {mn mc : Nat} {xs : List Value} (h : Row w S 9 1 (.slice ma mn mc) mn xs) (hn : mn ≤ 1048576) (hU : ∀ g, own (.slice ma mn mc) g → U g) : Sep U w ⟨k, none, 0, 0, d, v, s, ma, mn, mc, e, r, b⟩ .nil :=
 ⟨[], fun _ => False, ⟨xs, ⟨h.1, fun _ hk => hk⟩, hn⟩, row9_nil _, fun g hg => ⟨hU g hg, id⟩, fun g hg => by simp [own, F9.kids, Value.ownBlock] at hg, fun g hg => hg.elim, rfl⟩
def SepK (U : Nat → Prop) (w : World) (u : Value) (k : FT) : Prop := ∃ (ks : List F9) (Us : Nat → Prop), Row9 w u ks ∧ (∀ g, own u g → U g ∧ ¬ Us g) ∧ (∀ g, Us g → U g) ∧ SepC w k Us ks
theorem SepK.wide {U U' : Nat → Prop} {w : World} {u : Value} {k : FT} (h : SepK U w u k) (hU : ∀ g, U g → U' g) : SepK U' w u k := by
 obtain ⟨ks, Us, k1, k2, k3, k4⟩ := h
 exact ⟨ks, Us, k1, fun g hg => ⟨hU g (k2 g hg).1, (k2 g hg).2⟩, fun g hg => hU g (k3 g hg), k4⟩
theorem sep_kids {U : Nat → Prop} {w : World} {kd : Int} {a : Option Addr} {n c : Nat} {k : FT} (h : SepK U w (.slice a n c) k) : Sep U w ⟨kd, a, n, c, ⟨#[]⟩, ⟨#[]⟩, ⟨#[]⟩, none, 0, 0, ⟨#[]⟩, ⟨#[]⟩, false⟩ k := by
 obtain ⟨ks, Us, k1, k2, k3, k4⟩ := h
 exact ⟨ks, Us, ⟨[], row_nil _ _ _ _, Nat.zero_le _⟩, k1, fun g hg => by simp [own, F9.mids, Value.ownBlock] at hg, k2, k3, k4⟩
end Go.Proofs.YthjgfpkmfmoheaaGreatDoor

/-
 The packet's reader: an item with all that stands beside it; a text and a value.
-/
namespace Go.Proofs.YthjgfpkmfmoheaaGreatDoor
open Go.RowKit Go.Shelf

structure RY (w : World) (X R : Nat) (v : Value) (l : List UInt8) (p : Nat) (x : Ix) : Prop where
 rx : RX w X R v l p x
 ok : x.Ok l
 ne : X ≠ R
 ap : ∀ a n c, v = .slice (some a) n c → a.block ≠ X
section
variable {w w' : World} {X R : Nat} {v : Value} {l : List UInt8} {p : Nat} {x : Ix}
theorem RY.ext (h : RY w X R v l p x) (y : Ext w w') : RY w' X R v l p x := ⟨h.rx.ext y, h.ok, h.ne, h.ap⟩
theorem RY.only {S : Nat → Prop} (h : RY w X R v l p x) (o : Only S w w') (h1 : ¬ S X) (h2 : ¬ S R) (h3 : ∀ a n c, v = .slice (some a) n c → ¬ S a.block) : RY w' X R v l p x := by
 refine ⟨⟨h.rx.rd.only o h2, ?_, h.rx.ln, IxA.only h.rx.ix o h1⟩, h.ok, h.ne, h.ap⟩
 obtain ⟨a, n, cap, rfl⟩ := h.rx.sl.lit
 exact h.rx.sl.onlyB o (fun a' e => by subst e; exact h3 _ _ _ rfl)
theorem RY.slt (h : RY w X R v l p x) (a : Addr) (n c : Nat) (e : v = .slice (some a) n c) : a.block < w.heap.size := by
 obtain ⟨h1, h2, h3, h4⟩ := h.ok
 subst e
 obtain ⟨g, o, e2, hc, _⟩ := h.rx.sl.byte 0 (by omega)
 cases e2
 exact World.block_lt_of_cell? _ _ hc
end
def tookY (w w' : World) (X R : Nat) (v : Value) (l : List UInt8) (p : Nat) (x : Ix) (y : Ix) (e : Ending) : Prop := ∃ Y, e = .returned (.pointer (some ⟨Y, 0, none⟩)) ∧ w.heap.size ≤ Y ∧ RY w' Y R v l p y ∧ RY w' X R v l p (x.to y.t.til)
theorem take_y (w : World) (X R : Nat) (v : Value) (l : List UInt8) (p : Nat) (x : Ix) (tag : Nat) (h : RY w X R v l p x) : Calls Tryz.prog 121 #[.pointer (some ⟨X, 0, none⟩), .int .u8 tag] w fun e w' => Only (fun g => g = X) w w' ∧ Outc (takeR l x tag) (tookY w w' X R v l p x) e := by
 refine (take_any w X R v l p x tag h.rx h.ne h.ap).mono ?_
 rintro e w' ⟨o, ho⟩
 refine ⟨o, ?_⟩
 cases ht : takeR l x tag with
 | error q => exact outc_err rfl (ho.err ht)
 | ok y =>
   obtain ⟨Y, e1, hY, r1, r2⟩ := ho.ok ht
   obtain ⟨k1, k2, k3, k4, k5, k6⟩ := takeR_ok ht
   have hxo := h.ok
   refine outc_ok rfl ⟨Y, e1, hY, ⟨r1, k1, ?_, ?_⟩, ⟨r2, ?_, h.ne, h.ap⟩⟩
   · have := h.rx.rd.lt; omega
   · intro a n c ev; have := h.slt a n c ev; omega
   · obtain ⟨a1, a2, a3, a4⟩ := h.ok
     obtain ⟨b1, b2, b3, b4⟩ := k1
     exact ⟨a1, by show x.t.fro ≤ y.t.til; omega, k6, a4⟩
theorem FOwn.move {w w' : World} {f : F9} {a : OwnF} (h : FOwn w f a) (hm : SSl w' f.mids a.ms) : FOwn w' f a := { h with mids := hm }
def FKeep (B : Nat → Prop) (w : World) (f : F9) (a : OwnF) (k : FT) : Prop := ∀ w' : World, (∀ g, B g → w'.heap[g]? = w.heap[g]?) → FOwn w' f a ∧ FKids w' f k
theorem FKeep.self {B : Nat → Prop} {w : World} {f : F9} {a : OwnF} {k : FT} (h : FKeep B w f a k) : FOwn w f a ∧ FKids w f k := h w (fun _ _ => rfl)
theorem FKeep.next {B : Nat → Prop} {w w' : World} {f : F9} {a : OwnF} {k : FT} (h : FKeep B w f a k) (hw : ∀ g, B g → w'.heap[g]? = w.heap[g]?) : FKeep B w' f a k := fun w2 h2 => h w2 (fun g hg => (h2 g hg).trans (hw g hg))
theorem FKeep.wide {B B' : Nat → Prop} {w : World} {f : F9} {a : OwnF} {k : FT} (h : FKeep B w f a k) (hB : ∀ g, B g → B' g) : FKeep B' w f a k := fun w2 h2 => h w2 (fun g hg => h2 g (hB g hg))
def GKeep (B : Nat → Prop) (w : World) (f : F9) (a : OwnF) (k : FT) : Prop := FKeep B w f a k ∧ Sep B w f k
theorem GKeep.self {B : Nat → Prop} {w : World} {f : F9} {a : OwnF} {k : FT} (h : GKeep B w f a k) : FOwn w f a ∧ FKids w f k := h.1.self
theorem GKeep.next {B : Nat → Prop} {w w' : World} {f : F9} {a : OwnF} {k : FT} (h : GKeep B w f a k) (hw : ∀ g, B g → w'.heap[g]? = w.heap[g]?) : GKeep B w' f a k := ⟨h.1.next hw, h.2.next (fun g hg _ => hw g hg)⟩
theorem GKeep.wide {B B' : Nat → Prop} {w : World} {f : F9} {a : OwnF} {k : FT} (h : GKeep B w f a k) (hB : ∀ g, B g → B' g) : GKeep B' w f a k := ⟨h.1.wide hB, h.2.wide hB⟩
def news (w w' : World) (g : Nat) : Prop := w.heap.size ≤ g ∧ g < w'.heap.size
def readF (w w' : World) (a : OwnF) (e : Ending) : Prop := ∃ f : F9, e = .returned (.agg f.arr) ∧ GKeep (news w w') w' f a .nil

theorem textR_size {l : List UInt8} {x : Ix} {s : List UInt8} (h : textR l x = .ok s) (hx : x.Ok l) : (str s).size ≤ 281474976710656 := by
 unfold textR at h
 split at h
 · cases h
 · rename_i h1
   split at h
   · cases h
   · simp only [Except.ok.injEq] at h
     subst h
     obtain ⟨a1, a2, a3, a4⟩ := hx
     rw [← byt_length, byt_str, cutB_length _ _ _ a4]
     omega
theorem fkids_nil (w : World) (k : Int) (d v s : ByteArray) (ma : Option Addr) (mn mc : Nat) (e r : ByteArray) (b : Bool) : FKids w ⟨k, none, 0, 0, d, v, s, ma, mn, mc, e, r, b⟩ .nil := ⟨rfl, Nat.le_refl _, Nat.zero_le _, .inl rfl⟩

set_option maxRecDepth 100000 in
set_option maxHeartbeats 4000000 in
theorem against_any (w : World) (X R : Nat) (v : Value) (l : List UInt8) (p : Nat) (x : Ix) (k : Int) (hk : 0 ≤ k ∧ k ≤ 9) (h : RY w X R v l p x) : Calls Tryz.prog 91 #[.pointer (some ⟨X, 0, none⟩), .int .i8 k] w fun e w' => Only (fun g => g = X) w w' ∧ Outc (againstR l x k) (fun a e => readF w w' a e ∧ ∃ n, IxAt w' X R l (x.to n)) e := by
 have z0 := fl_new w
 have x0 := (Ext.refl w).alloc (.cells #[.int .i8 0, .slice none 0 0, .string ⟨#[]⟩, .string ⟨#[]⟩, .string ⟨#[]⟩, .slice none 0 0, .string ⟨#[]⟩, .string ⟨#[]⟩, .bool false] 27)
 have hs0 : (w.alloc (.cells #[.int .i8 0, .slice none 0 0, .string ⟨#[]⟩, .string ⟨#[]⟩, .string ⟨#[]⟩, .slice none 0 0, .string ⟨#[]⟩, .string ⟨#[]⟩, .bool false] 27)).heap.size = w.heap.size + 1 := World.size_alloc _ _
 go_enter Tryz.func91, Tryz.ntmps91
 go_upto_region 1 with fail
 generalize World.alloc w _ = w0 at z0 x0 hs0 ⊢
 have f0 : FlT (w0.alloc (.cells #[.int .i8 k, .slice none 0 0, .string ⟨#[]⟩, .string ⟨#[]⟩, .string ⟨#[]⟩, .slice none 0 0, .string ⟨#[]⟩, .string ⟨#[]⟩, .bool false] 27)) w0.heap.size ⟨k, none, 0, 0, ⟨#[]⟩, ⟨#[]⟩, ⟨#[]⟩, none, 0, 0, ⟨#[]⟩, ⟨#[]⟩, false⟩ := heap_alloc_new _ _
 have x1 := (Ext.refl w0).alloc (.cells #[.int .i8 k, .slice none 0 0, .string ⟨#[]⟩, .string ⟨#[]⟩, .string ⟨#[]⟩, .slice none 0 0, .string ⟨#[]⟩, .string ⟨#[]⟩, .bool false] 27)
 have hs0h : Hid (w0.heap.size = w.heap.size + 1) := hs0
 clear hs0
 go_upto_region 2 with fail
 generalize World.alloc w0 _ = w1 at f0 x1 ⊢
 generalize hF : w0.heap.size = F at f0 hs0h ⊢
 have z1 := z0.ext x1
 have y1 := x0.trans x1
 have h1 := h.ext y1
 have hXl := IxA.lt h.rx.ix
 have hFX : F ≠ X := by have := hs0h.out; omega
 have hZX : w.heap.size ≠ X := by omega
 have o1 : Only (fun g => g = X) w w1 := y1.only
 clear z0 x0 x1 hF y1
 have hT1 := take_y w1 X R v l p x 4 h1
 go_wp2_with fail
 go_at_call 121
 refine hT1.mono ?_
 rintro _ w2 ⟨q2, ho⟩
 cases ht1 : takeR l x 4 with
 | error q =>
   have ho := ho.err ht1
   subst ho
   exact ⟨rfl, o1.then q2, outc_err (by unfold againstR; rw [ht1]; rfl) rfl⟩
 | ok y =>
 obtain ⟨Y, rfl, hY, ry, rx⟩ := ho.ok ht1
 have f2 := f0.only q2 hFX
 have z2 := z1.only q2 hZX
 have o2 := o1.then q2
 clear hT1 ho f0 z1 o1 q2 h1
 have hX1 := text_any w2 Y R v l p y ry.rx ry.ok
 go_wp2_with fail
 go_at_call 93
 refine hX1.mono ?_
 rintro _ w3 ⟨q3, ho⟩
 cases ht2 : textR l y with
 | error q =>
   have ho := ho.err ht2
   subst ho
   exact ⟨rfl, o2.ext q3, outc_err (by unfold againstR; rw [ht1]; show bindR (textR l y) _ = _; rw [ht2]; rfl) rfl⟩
 | ok d =>
 have ho := ho.ok ht2
 subst ho
 have hdz := textR_size ht2 ry.ok
 have f3 := f2.ext q3
 have z3 := z2.ext q3
 have o3 := o2.ext q3
 have rx3 := rx.ext q3
 clear f2 z2 o2 rx hX1 q3 ry
 obtain ⟨c0, c1, c2, c3, c4, c5, c6, c7, c8, fz⟩ := f3.cells
 have oS := setOnly w3 F 2 (.string (str d))
 have f4 := f3.set2 (str d)
 have z4 := z3.only oS (by have := hs0h.out; omega)
 have o4 : Only (fun g => g = X) w (w3.setCell ⟨F, 2, none⟩ (.string (str d))) := o3.trans (oS.mono fun g _ hg => .inr (by have := hs0h.out; omega))
 have rx4 := rx3.only oS (fun e => hFX e.symm) (fun e => by have := h.rx.rd.lt; have := hs0h.out; omega) (fun a n c ev => by have := h.slt a n c ev; have := hs0h.out; omega)
 clear f3 z3 o3 rx3 oS
 go_upto_region 3 with fail
 clear c0 c1 c2 c3 c4 c5 c6 c7 c8 fz
 generalize World.setCell w3 _ _ = w4 at f4 z4 o4 rx4 ⊢
 have hT1 := take_y w4 X R v l p _ 4 rx4
 go_wp2_with fail
 go_at_call 121
 refine hT1.mono ?_
 rintro _ w5 ⟨q5, ho⟩
 cases ht3 : takeR l (x.to y.t.til) 4 with
 | error q =>
   have ho := ho.err ht3
   subst ho
   exact ⟨rfl, o4.then q5, outc_err (by unfold againstR; rw [ht1]; show bindR (textR l y) _ = _; rw [ht2]; show bindR (takeR l (x.to y.t.til) 4) _ = _; rw [ht3]; rfl) rfl⟩
 | ok z =>
 obtain ⟨Z, rfl, hZ, rz, rx⟩ := ho.ok ht3
 have f5 := f4.only q5 hFX
 have z5 := z4.only q5 hZX
 have o5 := o4.then q5
 clear hT1 ho f4 z4 o4 q5 rx4
 have hX1 := text_any w5 Z R v l p z rz.rx rz.ok
 go_wp2_with fail
 go_at_call 93
 refine hX1.mono ?_
 rintro _ w6 ⟨q6, ho⟩
 cases ht4 : textR l z with
 | error q =>
   have ho := ho.err ht4
   subst ho
   exact ⟨rfl, o5.ext q6, outc_err (by unfold againstR; rw [ht1]; show bindR (textR l y) _ = _; rw [ht2]; show bindR (takeR l (x.to y.t.til) 4) _ = _; rw [ht3]; show bindR (textR l z) _ = _; rw [ht4]; rfl) rfl⟩
 | ok u =>
 have ho := ho.ok ht4
 subst ho
 have huz := textR_size ht4 rz.ok
 have hR : Hid (againstR l x k = bindR (endR l (x.to z.t.til)) fun _ => checkedR { ownK k with desc := str d, value := str u } .nil x.at_) := by
   show _ = _
   unfold againstR; rw [ht1]; show bindR (textR l y) _ = _; rw [ht2]; show bindR (takeR l (x.to y.t.til) 4) _ = _; rw [ht3]; show bindR (textR l z) _ = _; rw [ht4]; rfl
 have f6 := f5.ext q6
 have z6 := z5.ext q6
 have o6 := o5.ext q6
 have rx6 := rx.ext q6
 clear f5 z5 o5 rx hX1 q6 rz ht1 ht2 ht3 ht4
 obtain ⟨c0, c1, c2, c3, c4, c5, c6, c7, c8, fz⟩ := f6.cells
 have oS := setOnly w6 F 3 (.string (str u))
 have f7 := f6.set3 (str u)
 have z7 := z6.only oS (by have := hs0h.out; omega)
 have o7 : Only (fun g => g = X) w (w6.setCell ⟨F, 3, none⟩ (.string (str u))) := o6.trans (oS.mono fun g _ hg => .inr (by have := hs0h.out; omega))
 have rx7 := rx6.only oS (fun e => hFX e.symm) (fun e => by have := h.rx.rd.lt; have := hs0h.out; omega) (fun a n c ev => by have := h.slt a n c ev; have := hs0h.out; omega)
 clear f6 z6 o6 rx6 oS
 go_upto_region 4 with fail
 clear c0 c1 c2 c3 c4 c5 c6 c7 c8 fz
 generalize World.setCell w6 _ _ = w7 at f7 z7 o7 rx7 ⊢
 have hE := end_any w7 X R v l p _ rx7.rx
 go_wp2_with fail
 go_at_call 120
 refine hE.mono ?_
 rintro _ w8 ⟨q8, ho⟩
 cases ht5 : endR l (x.to z.t.til) with
 | error q =>
   have ho := ho.err ht5
   subst ho
   exact ⟨rfl, o7.ext q8, outc_err (by rw [hR.out, ht5]; rfl) rfl⟩
 | ok u9 =>
 have ho := ho.ok ht5
 unfold unitE at ho
 subst ho
 have hR2 : Hid (againstR l x k = checkedR { ownK k with desc := str d, value := str u } .nil x.at_) := by show _ = _; rw [hR.out, ht5]; rfl
 have f8 := f7.ext q8
 have z8 := z7.ext q8
 have o8 := o7.ext q8
 have rx8 := rx7.ext q8
 clear f7 z7 o7 rx7 hE q8 hR ht5
 obtain ⟨c0, c1, c2, c3, c4, c5, c6, c7, c8, fz⟩ := f8.cells
 simp only at c0 c1 c2 c3 c4 c5 c6 c7 c8
 have hown : FOwn w8 ⟨k, none, 0, 0, str d, str u, ⟨#[]⟩, none, 0, 0, ⟨#[]⟩, ⟨#[]⟩, false⟩ { ownK k with desc := str d, value := str u } :=
   ⟨rfl, rfl, rfl, rfl, rfl, rfl, rfl, ⟨hdz, huz, Nat.zero_le _, Nat.zero_le _, Nat.zero_le _⟩, ssl_nil rfl (Nat.zero_le _), (fun s hs => by cases hs), by show -128 ≤ k ∧ k ≤ 127; omega⟩
 have hC := checked_any w8 X R l _ rx8.rx.ix _ _ .nil hown (fkids_nil w8 k (str d) (str u) ⟨#[]⟩ none 0 0 ⟨#[]⟩ ⟨#[]⟩ false)
 simp only [F9.arr] at hC
 go_wp2_with fail
 go_at_call 92
 refine hC.mono ?_
 rintro _ w9 ⟨q9, ho⟩
 change Outc (checkedR _ _ x.at_) _ _ at ho
 cases ht6 : checkedR { ownK k with desc := str d, value := str u } .nil x.at_ with
 | error q =>
   have ho := ho.err ht6
   subst ho
   exact ⟨rfl, o8.ext q9, outc_err (by rw [hR2.out, ht6]) rfl⟩
 | ok a9 =>
 have ho := ho.ok ht6
 subst ho
 have ha9 : a9 = { ownK k with desc := str d, value := str u } := by
   unfold checkedR at ht6
   split at ht6
   · simp only [Except.ok.injEq] at ht6; exact ht6.symm
   · cases ht6
 subst ha9
 have hR3 : Hid (againstR l x k = .ok { ownK k with desc := str d, value := str u }) := by show _ = _; rw [hR2.out, ht6]
 have z9 := z8.ext q9
 have o9 := o8.ext q9
 have i9 : IxAt w9 X R l (x.to z.t.til) := (rx8.ext q9).rx.ix
 have hown9 := hown.ext q9
 clear c0 c1 c2 c3 c4 c5 c6 c7 c8 fz f8 z8 o8 rx8 hC q9 hown hR2 ht6
 obtain ⟨d0, d1, d2, d3, d4, d5, d6, d7, d8, dz⟩ := z9.cells
 go_wp2
 have f10 := z9.put ⟨k, none, 0, 0, str d, str u, ⟨#[]⟩, none, 0, 0, ⟨#[]⟩, ⟨#[]⟩, false⟩
 have o10 := put_only w9 w.heap.size ⟨k, none, 0, 0, str d, str u, ⟨#[]⟩, none, 0, 0, ⟨#[]⟩, ⟨#[]⟩, false⟩
 refine bodyPost_ret (results_f rfl _ _ w.heap.size _ rfl rfl f10) rfl ?_
 refine ⟨o9.trans (o10.mono fun g _ hg => .inr (by omega)), outc_ok hR3.out ⟨⟨_, rfl, fun w11 _ => ⟨hown9.move (ssl_nil rfl (Nat.zero_le _)), fkids_nil _ _ _ _ _ _ _ _ _ _ _⟩, sep_none _ _ _ _ _ _ _ _ _⟩, _, IxA.only i9 o10 (fun e => hZX e.symm)⟩⟩
end Go.Proofs.YthjgfpkmfmoheaaGreatDoor

/-
 The packet's reader: the pieces of a part.
-/
namespace Go.Proofs.YthjgfpkmfmoheaaGreatDoor
open Go.RowKit Go.Shelf

def RowS (w : World) (S : Nat → Prop) (v : Value) (l : List ByteArray) : Prop := Row w S 9 1 v l.length (l.map Value.string)
theorem infoS : (Tryz.prog.info? 9).map (fun i => (i.zero, i.size, i.bytes)) = some (some (.string ⟨#[]⟩), 1, 16) := by kernel_rfl
theorem rowS_of {w : World} {S S' : Nat → Prop} {v : Value} {l : List ByteArray} {n : Nat} {xs : List Value} (h : Row w S 9 1 v n xs) (hn : n = l.length) (hx : xs = l.map Value.string) (hS : ∀ k, S k → S' k) : RowS w S' v l := by
 subst hn hx; exact h.wide hS
theorem RowS.ssl {w : World} {S : Nat → Prop} {v : Value} {l : List ByteArray} (h : RowS w S v l) : SSl w v l := by
 have hc := fun g hg => World.ownsRow.cells h.1 (g := g) hg
 rcases h.1.2 with ⟨rfl, hl⟩ | ⟨g, cap, cur, rfl, _, _, h1, h2, _⟩
 · obtain rfl : l = [] := List.eq_nil_of_length_eq_zero hl
   exact ssl_nil rfl (by decide)
 · refine ⟨_, _, rfl, h1, h2, fun j hj => ⟨g, 0, rfl, ?_⟩⟩
   have := hc g rfl j (.string l[j]) (by simp [List.getElem?_eq_getElem hj])
   rwa [Addr.add_lit] at this
theorem RowS.lit {w : World} {S : Nat → Prop} {v : Value} {l : List ByteArray} (h : RowS w S v l) : ∃ a n cap, v = .slice a n cap := by
 obtain ⟨a, cap, e, _⟩ := h.ssl
 exact ⟨a, _, cap, e⟩
theorem Row.alike {w w' : World} {S : Nat → Prop} {e : TypeId} {sz : Nat} {v : Value} {n : Nat} {xs : List Value} (h : Row w S e sz v n xs) (k : ∀ g, own v g → w'.heap[g]? = w.heap[g]?) : Row w' S e sz v n xs := by
 refine ⟨⟨h.1.1, ?_⟩, h.2⟩
 rcases h.1.2 with h1 | ⟨g, cap, cur, rfl, h2, hg, h3⟩
 · exact .inl h1
 · exact .inr ⟨g, cap, cur, rfl, h2, (k g rfl).trans hg, h3⟩
theorem wpList_str {ops : Array Oper} {rest : List Oper} {o : Oper} {a : Act} {Q : Exit → Act → World → Prop} (hgd : o.guard = none) (s x : Operand)
   (ho : o.op = .call { callee := .builtin .append, args := #[s, x], argTypes := #[25, 25] })
   (w0 : World) (S : Nat → Prop) (v : Value) (l : List ByteArray) (b : ByteArray) (hrow : RowS w0 S v l) (hs : a.eval s = v) (H : Nat)
   (hx : a.eval x = .slice (some ⟨H, 0, none⟩) 1 1) (hH : w0.heap.size = H) (hlen : l.length ≤ 1099511627776)
   (h : ∀ g cap w', RowS w' (Up S w0.heap.size) (.slice (some ⟨g, 0, none⟩) (l.length + 1) cap) (l ++ [b]) → Only S w0 w' → wpList Tryz.prog ops Q rest (a.put o.dst (.slice (some ⟨g, 0, none⟩) (l.length + 1) cap)) w') :
   wpList Tryz.prog ops Q (o :: rest) a (w0.alloc (.cells #[.string b] 9)) := by
 refine wpList_rowpush hgd s x 25 9 _ 1 16 infoS Tryz.underlying25 rfl (by decide) ho w0 S v l.length (l.map Value.string) _ hrow hs 1 1 H hx hH rfl (by simp [Value.oneCell']) (by decide) (by unfold maxLen; omega) (by omega) ?_
 intro g cap w' h1 h2
 exact h g cap w' (rowS_of h1 (by simp) (by simp) (fun _ h => h)) h2

def midsA (l : List UInt8) : Nat → Ix → List ByteArray → Rs (List ByteArray × Nat)
 | 0, x, acc => .ok (acc, x.next)
 | f + 1, x, acc => bindR (comesR l x 129) fun b => if b then bindR (takeR l x 129) fun y => bindR (textR l y) fun m => midsA l f (x.to y.t.til) (if m = [] then acc else acc ++ [str m]) else .ok (acc, x.next)
def firstR (l : List UInt8) (x : Ix) : Rs (List UInt8 × Nat) := bindR (comesR l x 128) fun b => if b then bindR (takeR l x 128) fun y => bindR (textR l y) fun s => .ok (s, y.t.til) else .ok ([], x.next)
def lastR (l : List UInt8) (x : Ix) : Rs (List UInt8 × Nat) := if x.left then bindR (takeR l x 130) fun y => bindR (textR l y) fun s => .ok (s, y.t.til) else .ok ([], x.next)
def piecesR (l : List UInt8) (x : Ix) : Rs (List UInt8 × List ByteArray × List UInt8) :=
 bindR (needR x) fun _ => bindR (firstR l x) fun a => bindR (midsA l (x.t.til + 1) (x.to a.2) []) fun b => bindR (lastR l (x.to b.2)) fun c => bindR (endR l (x.to c.2)) fun _ => .ok (a.1, b.1, c.1)

structure PcS (w wr : World) (X R F : Nat) (v : Value) (l : List UInt8) (p : Nat) (x : Ix) (n : Nat) (d s e : ByteArray) (acc : List ByteArray) : Prop where
 ry : RY wr X R v l p (x.to n)
 fl : ∃ ma mn mc, FlT wr F ⟨4, none, 0, 0, d, ⟨#[]⟩, s, ma, mn, mc, e, ⟨#[]⟩, false⟩ ∧ RowS wr (fun g => w.heap.size ≤ g) (.slice ma mn mc) acc
 on : Only (fun g => g = X ∨ g = F) w wr
 sz : sized acc
 ln : acc.length + x.t.fro ≤ n
structure PcH (w : World) (X R F : Nat) (v : Value) (x : Ix) : Prop where
 fx : F ≠ X
 fr : F ≠ R
 fs : ∀ a n c, v = .slice (some a) n c → a.block ≠ F
 xl : X < w.heap.size
 fl : F < w.heap.size
 rl : R < w.heap.size
 big : x.t.til - x.t.fro ≤ 1048576
section
variable {w wr w' : World} {X R F : Nat} {v : Value} {l : List UInt8} {p : Nat} {x : Ix} {n : Nat} {d s e : ByteArray} {acc : List ByteArray}
theorem PcS.ext (h : PcS w wr X R F v l p x n d s e acc) (y : Ext wr w') : PcS w w' X R F v l p x n d s e acc := by
 obtain ⟨ma, mn, mc, f1, f2⟩ := h.fl
 exact ⟨h.ry.ext y, ⟨ma, mn, mc, f1.ext y, Row.ext f2 y⟩, h.on.ext y, h.sz, h.ln⟩
theorem PcS.took {Y : Nat} {y : Ix} (h : PcS w wr X R F v l p x n d s e acc) (hh : PcH w X R F v x) (o : Only (fun g => g = X) wr w') (hr : RY w' X R v l p (x.to y.t.til)) (hY : RY w' Y R v l p y) (hyn : y.at_ = n) : PcS w w' X R F v l p x y.t.til d s e acc := by
 obtain ⟨ma, mn, mc, f1, f2⟩ := h.fl
 obtain ⟨k1, k2, k3, k4⟩ := hY.ok
 refine ⟨hr, ⟨ma, mn, mc, f1.only o hh.fx, Row.kept f2 o (fun g hg hx => by have := hh.xl; omega)⟩, h.on.then (o.mono fun _ _ hg => .inl hg), h.sz, by have := h.ln; omega⟩
theorem PcS.store {j : Nat} {u : Value} (h : PcS w wr X R F v l p x n d s e acc) (hh : PcH w X R F v x) (d' s' e' : ByteArray) (ma' : Option Addr) (mn' mc' : Nat) (acc' : List ByteArray)
   (hf : FlT (wr.setCell ⟨F, j, none⟩ u) F ⟨4, none, 0, 0, d', ⟨#[]⟩, s', ma', mn', mc', e', ⟨#[]⟩, false⟩) (hrow : RowS wr (fun g => w.heap.size ≤ g) (.slice ma' mn' mc') acc') (hz : sized acc') (hl : acc'.length + x.t.fro ≤ n) : PcS w (wr.setCell ⟨F, j, none⟩ u) X R F v l p x n d' s' e' acc' := by
 have o := setOnly wr F j u
 exact ⟨h.ry.only o (fun e => hh.fx e.symm) (fun e => hh.fr e.symm) hh.fs, ⟨ma', mn', mc', hf, Row.kept hrow o (fun g hg hx => by have := hh.fl; omega)⟩, h.on.then (o.mono fun _ _ hg => .inr hg), hz, hl⟩
theorem PcS.push {g cap : Nat} {b : ByteArray} (h : PcS w wr X R F v l p x n d s e acc) (hh : PcH w X R F v x) (r : RowS w' (Up (fun g => w.heap.size ≤ g) wr.heap.size) (.slice (some ⟨g, 0, none⟩) (acc.length + 1) cap) (acc ++ [b])) (o : Only (fun g => w.heap.size ≤ g) wr w')
   (hb : b.size ≤ 281474976710656) (hn : acc.length + 1 + x.t.fro ≤ n) (hs : ∀ a n c, v = .slice (some a) n c → a.block < w.heap.size) :
   (∃ ma mn mc, FlT w' F ⟨4, none, 0, 0, d, ⟨#[]⟩, s, ma, mn, mc, e, ⟨#[]⟩, false⟩) ∧ PcS w (w'.setCell ⟨F, 5, none⟩ (.slice (some ⟨g, 0, none⟩) (acc.length + 1) cap)) X R F v l p x n d s e (acc ++ [b]) := by
 obtain ⟨ma, mn, mc, f1, f2⟩ := h.fl
 have hF := hh.fl
 have hX := hh.xl
 have hR := hh.rl
 have f3 := f1.only o (by omega)
 have hsz := h.on.size
 have r2 : RowS w' (fun g => w.heap.size ≤ g) (.slice (some ⟨g, 0, none⟩) (acc.length + 1) cap) (acc ++ [b]) := Row.wide r (by rintro k (hk | hk) <;> omega)
 have ry := h.ry.only o (by omega) (by omega) (fun a n c ev => by have := hs a n c ev; omega)
 have on2 : Only (fun g => g = X ∨ g = F) w w' := h.on.trans (o.mono fun g _ hg => .inr hg)
 have oS := setOnly w' F 5 (.slice (some ⟨g, 0, none⟩) (acc.length + 1) cap)
 refine ⟨⟨ma, mn, mc, f3⟩, ⟨ry.only oS (fun e => hh.fx e.symm) (fun e => hh.fr e.symm) hh.fs, ⟨_, _, _, f3.set5 _ _ _, Row.kept r2 oS (fun g hg hx => by omega)⟩, on2.then (oS.mono fun _ _ hg => .inr hg), ?_, by simpa using hn⟩⟩
 intro y hy
 rcases List.mem_append.1 hy with hy | hy
 · exact h.sz y hy
 · simp only [List.mem_singleton] at hy; subst hy; exact hb
end
end Go.Proofs.YthjgfpkmfmoheaaGreatDoor

/-
 The packet's reader: the pieces of a part, walked.
-/
namespace Go.Proofs.YthjgfpkmfmoheaaGreatDoor
open Go.RowKit Go.Shelf

theorem comesR_true {l : List UInt8} {x : Ix} {tag : Nat} (h : comesR l x tag = .ok true) : x.left = true := by
 unfold comesR at h
 split at h
 · assumption
 · simp at h
set_option maxRecDepth 100000 in
set_option maxHeartbeats 8000000 in
theorem pieces_any (w : World) (X R : Nat) (v : Value) (l : List UInt8) (p : Nat) (x : Ix) (F : Nat) (d : ByteArray) (h : RY w X R v l p x) (hh : PcH w X R F v x)
   (hf : FlT w F ⟨4, none, 0, 0, d, ⟨#[]⟩, ⟨#[]⟩, none, 0, 0, ⟨#[]⟩, ⟨#[]⟩, false⟩) :
   Calls Tryz.prog 123 #[.pointer (some ⟨X, 0, none⟩), .pointer (some ⟨F, 0, none⟩)] w fun e w' => Only (fun g => g = X ∨ g = F) w w' ∧
     Outc (piecesR l x) (fun r e => e = .returned (.tuple #[]) ∧ (str r.1).size ≤ 281474976710656 ∧ (str r.2.2).size ≤ 281474976710656 ∧ ∃ n, PcS w w' X R F v l p x n d (str r.1) (str r.2.2) r.2.1) e := by
 have hN := need_any w X R l x h.rx.ix
 have hxok := h.ok
 have hsb : ∀ a n c, v = .slice (some a) n c → a.block < w.heap.size := h.slt
 have s0 : PcS w w X R F v l p x x.next d ⟨#[]⟩ ⟨#[]⟩ [] := ⟨h, ⟨none, 0, 0, hf, row_nil _ _ _ _⟩, Only.refl _ _, (fun s hs => by cases hs), by have := hxok.2.1; simpa using this⟩
 go_enter Tryz.func123, Tryz.ntmps123
 go_wp2_with fail
 go_at_call 139
 refine hN.mono ?_
 rintro _ _ ⟨⟨m, rfl⟩, ho⟩
 cases hn : needR x with
 | error q =>
   have ho := ho.err hn
   subst ho
   exact ⟨rfl, ((Ext.refl w).drewN m).only, outc_err (by unfold piecesR; rw [hn]; rfl) rfl⟩
 | ok u =>
 have ho := ho.ok hn
 unfold unitE at ho
 subst ho
 have s1 := s0.ext ((Ext.refl w).drewN m)
 generalize w.drewN m = w1 at s1 ⊢
 have hR1 : Hid (piecesR l x = bindR (firstR l x) fun a => bindR (midsA l (x.t.til + 1) (x.to a.2) []) fun b => bindR (lastR l (x.to b.2)) fun c => bindR (endR l (x.to c.2)) fun _ => .ok (a.1, b.1, c.1)) := by show _ = _; unfold piecesR; rw [hn]; rfl
 clear s0 hN hn h hf
 have hCm := comes_any w1 X R v l p x 128 s1.ry.rx
 go_wp2_with fail
 go_at_call 124
 refine hCm.mono ?_
 rintro _ w2 ⟨q2, ho⟩
 cases hc1 : comesR l x 128 with
 | error q =>
   have ho := ho.err hc1
   subst ho
   exact ⟨rfl, s1.on.ext q2, outc_err (by rw [hR1.out]; unfold firstR; rw [hc1]; rfl) rfl⟩
 | ok b =>
 have ho := ho.ok hc1
 subst ho
 have s2 := s1.ext q2
 clear hCm s1 q2
 go_upto_if 8 with fail
 go_cut [] (fun wx => ∃ (s : List UInt8) (n : Nat), Hid (firstR l x = .ok (s, n)) ∧ PcS w wx X R F v l p x n d (str s) ⟨#[]⟩ [] ∧ (str s).size ≤ 281474976710656)
 case first =>
   cases b with
   | false =>
     go_wp2
     go_meet
     exact ⟨[], x.next, by show _ = _; unfold firstR; rw [hc1]; rfl, s2, Nat.zero_le _⟩
   | true =>
     have hT := take_y w2 X R v l p x 128 s2.ry
     go_wp2_with fail
     go_at_call 121
     refine hT.mono ?_
     rintro _ w3 ⟨q3, ho⟩
     cases ht1 : takeR l x 128 with
     | error q =>
       have ho := ho.err ht1
       subst ho
       exact ⟨rfl, s2.on.then (q3.mono fun _ _ hg => .inl hg), outc_err (by rw [hR1.out]; unfold firstR; rw [hc1]; show bindR (bindR (takeR l x 128) _) _ = _; rw [ht1]; rfl) rfl⟩
     | ok y =>
     obtain ⟨Y, rfl, hY, ry, rx⟩ := ho.ok ht1
     have s3 := s2.took hh q3 rx ry (takeR_ok ht1).2.2.2.1
     clear hT ho q3 s2 rx
     have hX1 := text_any w3 Y R v l p y ry.rx ry.ok
     go_wp2_with fail
     go_at_call 93
     refine hX1.mono ?_
     rintro _ w4 ⟨q4, ho⟩
     cases ht2 : textR l y with
     | error q =>
       have ho := ho.err ht2
       subst ho
       exact ⟨rfl, s3.on.ext q4, outc_err (by rw [hR1.out]; unfold firstR; rw [hc1]; show bindR (bindR (takeR l x 128) _) _ = _; rw [ht1]; show bindR (bindR (textR l y) _) _ = _; rw [ht2]; rfl) rfl⟩
     | ok t =>
     have ho := ho.ok ht2
     subst ho
     have hz := textR_size ht2 ry.ok
     have s4 := s3.ext q4
     clear s3 q4 hX1 ry
     obtain ⟨ma, mn, mc, f4, r4⟩ := s4.fl
     have f5 := f4.set4 (str t)
     have s5 := s4.store hh d (str t) ⟨#[]⟩ ma mn mc [] f5 r4 s4.sz s4.ln
     obtain ⟨c0, c1, c2, c3, c4, c5, c6, c7, c8, fz⟩ := f4.cells
     go_wp2
     go_meet
     exact ⟨t, y.t.til, by show _ = _; unfold firstR; rw [hc1]; show bindR (takeR l x 128) _ = _; rw [ht1]; show bindR (textR l y) _ = _; rw [ht2]; rfl, s5, hz⟩
 case rest =>
   obtain ⟨s, n1, hF1, s3, hz1⟩ := hcut
   have hR2 : Hid (piecesR l x = bindR (midsA l (x.t.til + 1) (x.to n1) []) fun b => bindR (lastR l (x.to b.2)) fun c => bindR (endR l (x.to c.2)) fun _ => .ok (s, b.1, c.1)) := by show _ = _; rw [hR1.out, hF1.out]; rfl
   clear hF1 hR1 hc1 s2
   go_wp2_with fail
   go_loopg [4] (x.t.til + 1) (fun q _ wr => ∃ (n : Nat) (acc : List ByteArray), Hid (midsA l (x.t.til + 1) (x.to n1) [] = midsA l q (x.to n) acc) ∧ x.t.til - n < q ∧ PcS w wr X R F v l p x n d (str s) ⟨#[]⟩ acc)
   case atStart => exact ⟨n1, [], rfl, by omega, s3⟩
   case round =>
     obtain ⟨n, acc, hM, hq, s4⟩ := hrel
     clear s3
     obtain ⟨m, rfl⟩ : ∃ m, gk = m + 1 := ⟨gk - 1, by omega⟩
     have hCm := comes_any wr X R v l p (x.to n) 129 s4.ry.rx
     go_wp2_with fail
     go_at_call 124
     refine hCm.mono ?_
     rintro _ w5 ⟨q5, ho⟩
     cases hc2 : comesR l (x.to n) 129 with
     | error q =>
       have ho := ho.err hc2
       subst ho
       exact ⟨rfl, s4.on.ext q5, outc_err (by rw [hR2.out, hM.out, midsA, hc2]; rfl) rfl⟩
     | ok b =>
     have ho := ho.ok hc2
     subst ho
     have s5 := s4.ext q5
     have hln4 := s4.ln
     clear hCm q5 s4
     cases b with
     | true =>
       have hT := take_y w5 X R v l p (x.to n) 129 s5.ry
       go_wp2_with fail
       go_at_call 121
       refine hT.mono ?_
       rintro _ w6 ⟨q6, ho⟩
       cases ht1 : takeR l (x.to n) 129 with
       | error q =>
         have ho := ho.err ht1
         subst ho
         exact ⟨rfl, s5.on.then (q6.mono fun _ _ hg => .inl hg), outc_err (by rw [hR2.out, hM.out, midsA, hc2]; show bindR (bindR (takeR l (x.to n) 129) _) _ = _; rw [ht1]; rfl) rfl⟩
       | ok y =>
       obtain ⟨Y, rfl, hY, ry, rx⟩ := ho.ok ht1
       have hyat : y.at_ = n := (takeR_ok ht1).2.2.2.1
       have hyt : y.t.til ≤ x.t.til := (takeR_ok ht1).2.2.2.2.2
       have hyo := ry.ok
       have s6 := s5.took hh q6 rx ry hyat
       clear hT ho q6 s5 rx
       have hX1 := text_any w6 Y R v l p y ry.rx ry.ok
       go_wp2_with fail
       go_at_call 93
       refine hX1.mono ?_
       rintro _ w7 ⟨q7, ho⟩
       cases ht2 : textR l y with
       | error q =>
         have ho := ho.err ht2
         subst ho
         exact ⟨rfl, s6.on.ext q7, outc_err (by rw [hR2.out, hM.out, midsA, hc2]; show bindR (bindR (takeR l (x.to n) 129) _) _ = _; rw [ht1]; show bindR (bindR (textR l y) _) _ = _; rw [ht2]; rfl) rfl⟩
       | ok t =>
       have ho := ho.ok ht2
       subst ho
       have hz := textR_size ht2 ry.ok
       have s7 := s6.ext q7
       have hM2 : Hid (midsA l (x.t.til + 1) (x.to n1) [] = midsA l m (x.to y.t.til) (if t = [] then acc else acc ++ [str t])) := by
         show _ = _
         rw [hM.out, midsA, hc2]; show bindR (takeR l (x.to n) 129) _ = _; rw [ht1]; show bindR (textR l y) _ = _; rw [ht2]; rfl
       clear s6 q7 hX1 ry hM hc2 ht1 ht2
       obtain ⟨hy1, hy2, hy3, hy4⟩ := hyo
       by_cases ht0 : t = []
       · subst ht0
         have n0 : ((str ([] : List UInt8)).toList == []) = true := by rw [toList_byt, byt_str]; rfl
         rw [if_pos rfl] at hM2
         go_wp2
         go_roundg m
         case measure => omega
         case rel => exact ⟨y.t.til, acc, hM2, by omega, s7⟩
       · have n0 : ((str t).toList == []) = false := by rw [toList_byt, byt_str]; simpa using ht0
         rw [if_neg ht0] at hM2
         obtain ⟨ma, mn, mc, f7, r7⟩ := s7.fl
         obtain ⟨c0, c1, c2, c3, c4, c5, c6, c7, c8, fz⟩ := f7.cells
         clear ht0 c0 c1 c2 c3 c4 c6 c7 c8
         generalize str t = st at *
         go_wp2_with (at_builtin; refine Hid.out ?_)
         refine wpList_str rfl _ _ rfl _ _ _ _ _ r7 rfl _ rfl rfl ?hl ?_
         case hl => have := hh.big; omega
         intro g cap w8 r8 o8
         have hpush := s7.push hh r8 o8 hz (by omega) hsb
         obtain ⟨⟨ma2, mn2, mc2, f8⟩, s9⟩ := hpush
         obtain ⟨d0, d1, d2, d3, d4, d5, d6, d7, d8, dz⟩ := f8.cells
         clear c5 fz f7 r7 r8 o8 s7
         go_wp2
         go_roundg m
         case measure => omega
         case rel => exact ⟨y.t.til, acc ++ [st], hM2, by omega, s9⟩
     | false =>
       have hM2 : Hid (piecesR l x = bindR (lastR l (x.to n)) fun c => bindR (endR l (x.to c.2)) fun _ => .ok (s, acc, c.1)) := by show _ = _; rw [hR2.out, hM.out, midsA, hc2]; rfl
       clear hM hR2 hc2
       have hL := isLeft_any w5 X R l (x.to n) s5.ry.rx.ix
       go_wp2_with fail
       go_at_call 119
       refine hL.mono ?_
       rintro _ _ ⟨rfl, mm, rfl⟩
       have s6 := s5.ext ((Ext.refl w5).drewN mm)
       generalize w5.drewN mm = w6 at s6 ⊢
       clear hL s5
       go_upto_if 33 with fail
       go_cut [] (fun wx => ∃ (e : List UInt8) (n3 : Nat), Hid (lastR l (x.to n) = .ok (e, n3)) ∧ PcS w wx X R F v l p x n3 d (str s) (str e) acc ∧ (str e).size ≤ 281474976710656)
       case first =>
         cases hle : (x.to n).left with
         | false =>
           go_wp2
           go_meet
           exact ⟨[], n, by show _ = _; unfold lastR; rw [hle]; rfl, s6, Nat.zero_le _⟩
         | true =>
           have hT := take_y w6 X R v l p (x.to n) 130 s6.ry
           go_wp2_with fail
           go_at_call 121
           refine hT.mono ?_
           rintro _ w7 ⟨q7, ho⟩
           cases ht1 : takeR l (x.to n) 130 with
           | error q =>
             have ho := ho.err ht1
             subst ho
             exact ⟨rfl, s6.on.then (q7.mono fun _ _ hg => .inl hg), outc_err (by rw [hM2.out]; unfold lastR; rw [hle, if_pos rfl, ht1]; rfl) rfl⟩
           | ok y =>
           obtain ⟨Y, rfl, hY, ry, rx⟩ := ho.ok ht1
           have s7 := s6.took hh q7 rx ry (takeR_ok ht1).2.2.2.1
           clear hT ho q7 s6 rx
           have hX1 := text_any w7 Y R v l p y ry.rx ry.ok
           go_wp2_with fail
           go_at_call 93
           refine hX1.mono ?_
           rintro _ w8 ⟨q8, ho⟩
           cases ht2 : textR l y with
           | error q =>
             have ho := ho.err ht2
             subst ho
             exact ⟨rfl, s7.on.ext q8, outc_err (by rw [hM2.out]; unfold lastR; rw [hle, if_pos rfl, ht1]; show bindR (bindR (textR l y) _) _ = _; rw [ht2]; rfl) rfl⟩
           | ok t =>
           have ho := ho.ok ht2
           subst ho
           have hz := textR_size ht2 ry.ok
           have s8 := s7.ext q8
           clear s7 q8 hX1 ry
           obtain ⟨ma, mn, mc, f4, r4⟩ := s8.fl
           have f5 := f4.set6 (str t)
           have s9 := s8.store hh d (str s) (str t) ma mn mc acc f5 r4 s8.sz s8.ln
           obtain ⟨c0, c1, c2, c3, c4, c5, c6, c7, c8, fz⟩ := f4.cells
           go_wp2
           go_meet
           exact ⟨t, y.t.til, by show _ = _; unfold lastR; rw [hle, if_pos rfl, ht1]; show bindR (textR l y) _ = _; rw [ht2]; rfl, s9, hz⟩
       case rest =>
         obtain ⟨e, n3, hL3, s7, hz3⟩ := hcut
         have hR3 : Hid (piecesR l x = bindR (endR l (x.to n3)) fun _ => .ok (s, acc, e)) := by show _ = _; rw [hM2.out, hL3.out]; rfl
         clear hL3 hM2 s6
         have hE := end_any _ X R v l p _ s7.ry.rx
         go_wp2_with fail
         go_at_call 120
         refine hE.mono ?_
         rintro _ w8 ⟨q8, ho⟩
         cases ht5 : endR l (x.to n3) with
         | error q =>
           have ho := ho.err ht5
           subst ho
           exact ⟨rfl, s7.on.ext q8, outc_err (by rw [hR3.out, ht5]; rfl) rfl⟩
         | ok u9 =>
         have ho := ho.ok ht5
         unfold unitE at ho
         subst ho
         go_wp2
         go_end0
         exact ⟨s7.on.ext q8, outc_ok (by rw [hR3.out, ht5]; rfl) ⟨rfl, hz1, hz3, n3, s7.ext q8⟩⟩
end Go.Proofs.YthjgfpkmfmoheaaGreatDoor
