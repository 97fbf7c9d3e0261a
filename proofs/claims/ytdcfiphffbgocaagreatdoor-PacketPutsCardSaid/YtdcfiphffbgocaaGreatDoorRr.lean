/-
  The packet's reader: an item with all that stands beside it; a text and a value.
-/
import Derived.Test.YtdcfiphffbgocaaGreatDoorRq
namespace Go.Proofs.YtdcfiphffbgocaaGreatDoor
open Go.RowKit Go.Shelf

/-- the reader, its bytes, an item that lies within them, each in blocks of its own -/
structure RY (w : World) (X R : Nat) (v : Value) (l : List UInt8) (p : Nat) (x : Ix) : Prop where
  rx : RX w X R v l p x
  ok : x.Ok l
  ne : X ≠ R
  ap : ∀ a n c, v = .slice (some a) n c → a.block ≠ X
section
variable {w w' : World} {X R : Nat} {v : Value} {l : List UInt8} {p : Nat} {x : Ix}
theorem RY.ext (h : RY w X R v l p x) (y : Ext w w') : RY w' X R v l p x := ⟨h.rx.ext y, h.ok, h.ne, h.ap⟩
theorem RY.only {S : Nat → Prop} (h : RY w X R v l p x) (o : Only S w w') (h1 : ¬ S X) (h2 : ¬ S R) (h3 : ∀ a n c, v = .slice (some a) n c → ¬ S a.block) : RY w' X R v l p x := by
  refine ⟨⟨h.rx.rd.only o h2, ?_, h.rx.ln, IxA.only h.rx.ix o h1⟩, h.ok, h.ne, h.ap⟩
  obtain ⟨a, n, cap, rfl⟩ := h.rx.sl.lit
  exact h.rx.sl.onlyB o (fun a' e => by subst e; exact h3 _ _ _ rfl)
theorem RY.slt (h : RY w X R v l p x) (a : Addr) (n c : Nat) (e : v = .slice (some a) n c) : a.block < w.heap.size := by
  obtain ⟨h1, h2, h3, h4⟩ := h.ok
  subst e
  obtain ⟨g, o, e2, hc, _⟩ := h.rx.sl.byte 0 (by omega)
  cases e2
  exact World.block_lt_of_cell? _ _ hc
end
/-- what a call that takes an item leaves -/
def tookY (w w' : World) (X R : Nat) (v : Value) (l : List UInt8) (p : Nat) (x : Ix) (y : Ix) (e : Ending) : Prop := ∃ Y, e = .returned (.pointer (some ⟨Y, 0, none⟩)) ∧ w.heap.size ≤ Y ∧ RY w' Y R v l p y ∧ RY w' X R v l p (x.to y.t.til)
theorem take_y (w : World) (X R : Nat) (v : Value) (l : List UInt8) (p : Nat) (x : Ix) (tag : Nat) (h : RY w X R v l p x) : Calls Tryz.prog 121 #[.pointer (some ⟨X, 0, none⟩), .int .u8 tag] w fun e w' => Only (fun g => g = X) w w' ∧ Outc (takeR l x tag) (tookY w w' X R v l p x) e := by
  refine (take_any w X R v l p x tag h.rx h.ne h.ap).mono ?_
  rintro e w' ⟨o, ho⟩
  refine ⟨o, ?_⟩
  cases ht : takeR l x tag with
  | error q => exact outc_err rfl (ho.err ht)
  | ok y =>
    obtain ⟨Y, e1, hY, r1, r2⟩ := ho.ok ht
    obtain ⟨k1, k2, k3, k4, k5, k6⟩ := takeR_ok ht
    have hxo := h.ok
    refine outc_ok rfl ⟨Y, e1, hY, ⟨r1, k1, ?_, ?_⟩, ⟨r2, ?_, h.ne, h.ap⟩⟩
    · have := h.rx.rd.lt; omega
    · intro a n c ev; have := h.slt a n c ev; omega
    · obtain ⟨a1, a2, a3, a4⟩ := h.ok
      obtain ⟨b1, b2, b3, b4⟩ := k1
      exact ⟨a1, by show x.t.fro ≤ y.t.til; omega, k6, a4⟩
theorem FOwn.move {w w' : World} {f : F9} {a : OwnF} (h : FOwn w f a) (hm : SSl w' f.mids a.ms) : FOwn w' f a := { h with mids := hm }
/-- a filter stands in every world that is alike in the blocks of B -/
def FKeep (B : Nat → Prop) (w : World) (f : F9) (a : OwnF) (k : FT) : Prop := ∀ w' : World, (∀ g, B g → w'.heap[g]? = w.heap[g]?) → FOwn w' f a ∧ FKids w' f k
theorem FKeep.self {B : Nat → Prop} {w : World} {f : F9} {a : OwnF} {k : FT} (h : FKeep B w f a k) : FOwn w f a ∧ FKids w f k := h w (fun _ _ => rfl)
theorem FKeep.next {B : Nat → Prop} {w w' : World} {f : F9} {a : OwnF} {k : FT} (h : FKeep B w f a k) (hw : ∀ g, B g → w'.heap[g]? = w.heap[g]?) : FKeep B w' f a k := fun w2 h2 => h w2 (fun g hg => (h2 g hg).trans (hw g hg))
theorem FKeep.wide {B B' : Nat → Prop} {w : World} {f : F9} {a : OwnF} {k : FT} (h : FKeep B w f a k) (hB : ∀ g, B g → B' g) : FKeep B' w f a k := fun w2 h2 => h w2 (fun g hg => h2 g (hB g hg))
/-- the blocks that came between -/
def news (w w' : World) (g : Nat) : Prop := w.heap.size ≤ g ∧ g < w'.heap.size
/-- a filter that was read: it stands in blocks of its own -/
def readF (w w' : World) (a : OwnF) (e : Ending) : Prop := ∃ f : F9, e = .returned (.agg f.arr) ∧ FKeep (news w w') w' f a .nil

theorem textR_size {l : List UInt8} {x : Ix} {s : List UInt8} (h : textR l x = .ok s) (hx : x.Ok l) : (str s).size ≤ 281474976710656 := by
  unfold textR at h
  split at h
  · cases h
  · rename_i h1
    split at h
    · cases h
    · simp only [Except.ok.injEq] at h
      subst h
      obtain ⟨a1, a2, a3, a4⟩ := hx
      rw [← byt_length, byt_str, cutB_length _ _ _ a4]
      omega
theorem fkids_nil (w : World) (k : Int) (d v s : ByteArray) (ma : Option Addr) (mn mc : Nat) (e r : ByteArray) (b : Bool) : FKids w ⟨k, none, 0, 0, d, v, s, ma, mn, mc, e, r, b⟩ .nil := ⟨rfl, Nat.le_refl _, Nat.zero_le _, .inl rfl⟩

set_option maxRecDepth 100000 in
set_option maxHeartbeats 4000000 in
theorem against_any (w : World) (X R : Nat) (v : Value) (l : List UInt8) (p : Nat) (x : Ix) (k : Int) (hk : 0 ≤ k ∧ k ≤ 9) (h : RY w X R v l p x) : Calls Tryz.prog 91 #[.pointer (some ⟨X, 0, none⟩), .int .i8 k] w fun e w' => Only (fun g => g = X) w w' ∧ Outc (againstR l x k) (fun a e => readF w w' a e ∧ ∃ n, IxAt w' X R l (x.to n)) e := by
  have z0 := fl_new w
  have x0 := (Ext.refl w).alloc (.cells #[.int .i8 0, .slice none 0 0, .string ⟨#[]⟩, .string ⟨#[]⟩, .string ⟨#[]⟩, .slice none 0 0, .string ⟨#[]⟩, .string ⟨#[]⟩, .bool false] 27)
  have hs0 : (w.alloc (.cells #[.int .i8 0, .slice none 0 0, .string ⟨#[]⟩, .string ⟨#[]⟩, .string ⟨#[]⟩, .slice none 0 0, .string ⟨#[]⟩, .string ⟨#[]⟩, .bool false] 27)).heap.size = w.heap.size + 1 := World.size_alloc _ _
  go_enter Tryz.func91, Tryz.ntmps91
  go_upto_region 1 with fail
  generalize World.alloc w _ = w0 at z0 x0 hs0 ⊢
  have f0 : FlT (w0.alloc (.cells #[.int .i8 k, .slice none 0 0, .string ⟨#[]⟩, .string ⟨#[]⟩, .string ⟨#[]⟩, .slice none 0 0, .string ⟨#[]⟩, .string ⟨#[]⟩, .bool false] 27)) w0.heap.size ⟨k, none, 0, 0, ⟨#[]⟩, ⟨#[]⟩, ⟨#[]⟩, none, 0, 0, ⟨#[]⟩, ⟨#[]⟩, false⟩ := heap_alloc_new _ _
  have x1 := (Ext.refl w0).alloc (.cells #[.int .i8 k, .slice none 0 0, .string ⟨#[]⟩, .string ⟨#[]⟩, .string ⟨#[]⟩, .slice none 0 0, .string ⟨#[]⟩, .string ⟨#[]⟩, .bool false] 27)
  have hs0h : Hid (w0.heap.size = w.heap.size + 1) := hs0
  clear hs0
  go_upto_region 2 with fail
  generalize World.alloc w0 _ = w1 at f0 x1 ⊢
  generalize hF : w0.heap.size = F at f0 hs0h ⊢
  have z1 := z0.ext x1
  have y1 := x0.trans x1
  have h1 := h.ext y1
  have hXl := IxA.lt h.rx.ix
  have hFX : F ≠ X := by have := hs0h.out; omega
  have hZX : w.heap.size ≠ X := by omega
  have o1 : Only (fun g => g = X) w w1 := y1.only
  clear z0 x0 x1 hF y1
  have hT1 := take_y w1 X R v l p x 4 h1
  go_wp2_with fail
  go_at_call 121
  refine hT1.mono ?_
  rintro _ w2 ⟨q2, ho⟩
  cases ht1 : takeR l x 4 with
  | error q =>
    have ho := ho.err ht1
    subst ho
    exact ⟨rfl, o1.then q2, outc_err (by unfold againstR; rw [ht1]; rfl) rfl⟩
  | ok y =>
  obtain ⟨Y, rfl, hY, ry, rx⟩ := ho.ok ht1
  have f2 := f0.only q2 hFX
  have z2 := z1.only q2 hZX
  have o2 := o1.then q2
  clear hT1 ho f0 z1 o1 q2 h1
  have hX1 := text_any w2 Y R v l p y ry.rx ry.ok
  go_wp2_with fail
  go_at_call 93
  refine hX1.mono ?_
  rintro _ w3 ⟨q3, ho⟩
  cases ht2 : textR l y with
  | error q =>
    have ho := ho.err ht2
    subst ho
    exact ⟨rfl, o2.ext q3, outc_err (by unfold againstR; rw [ht1]; show bindR (textR l y) _ = _; rw [ht2]; rfl) rfl⟩
  | ok d =>
  have ho := ho.ok ht2
  subst ho
  have hdz := textR_size ht2 ry.ok
  have f3 := f2.ext q3
  have z3 := z2.ext q3
  have o3 := o2.ext q3
  have rx3 := rx.ext q3
  clear f2 z2 o2 rx hX1 q3 ry
  obtain ⟨c0, c1, c2, c3, c4, c5, c6, c7, c8, fz⟩ := f3.cells
  have oS := setOnly w3 F 2 (.string (str d))
  have f4 := f3.set2 (str d)
  have z4 := z3.only oS (by have := hs0h.out; omega)
  have o4 : Only (fun g => g = X) w (w3.setCell ⟨F, 2, none⟩ (.string (str d))) := o3.trans (oS.mono fun g _ hg => .inr (by have := hs0h.out; omega))
  have rx4 := rx3.only oS (fun e => hFX e.symm) (fun e => by have := h.rx.rd.lt; have := hs0h.out; omega) (fun a n c ev => by have := h.slt a n c ev; have := hs0h.out; omega)
  clear f3 z3 o3 rx3 oS
  go_upto_region 3 with fail
  clear c0 c1 c2 c3 c4 c5 c6 c7 c8 fz
  generalize World.setCell w3 _ _ = w4 at f4 z4 o4 rx4 ⊢
  have hT1 := take_y w4 X R v l p _ 4 rx4
  go_wp2_with fail
  go_at_call 121
  refine hT1.mono ?_
  rintro _ w5 ⟨q5, ho⟩
  cases ht3 : takeR l (x.to y.t.til) 4 with
  | error q =>
    have ho := ho.err ht3
    subst ho
    exact ⟨rfl, o4.then q5, outc_err (by unfold againstR; rw [ht1]; show bindR (textR l y) _ = _; rw [ht2]; show bindR (takeR l (x.to y.t.til) 4) _ = _; rw [ht3]; rfl) rfl⟩
  | ok z =>
  obtain ⟨Z, rfl, hZ, rz, rx⟩ := ho.ok ht3
  have f5 := f4.only q5 hFX
  have z5 := z4.only q5 hZX
  have o5 := o4.then q5
  clear hT1 ho f4 z4 o4 q5 rx4
  have hX1 := text_any w5 Z R v l p z rz.rx rz.ok
  go_wp2_with fail
  go_at_call 93
  refine hX1.mono ?_
  rintro _ w6 ⟨q6, ho⟩
  cases ht4 : textR l z with
  | error q =>
    have ho := ho.err ht4
    subst ho
    exact ⟨rfl, o5.ext q6, outc_err (by unfold againstR; rw [ht1]; show bindR (textR l y) _ = _; rw [ht2]; show bindR (takeR l (x.to y.t.til) 4) _ = _; rw [ht3]; show bindR (textR l z) _ = _; rw [ht4]; rfl) rfl⟩
  | ok u =>
  have ho := ho.ok ht4
  subst ho
  have huz := textR_size ht4 rz.ok
  have hR : Hid (againstR l x k = bindR (endR l (x.to z.t.til)) fun _ => checkedR { ownK k with desc := str d, value := str u } .nil x.at_) := by
    show _ = _
    unfold againstR; rw [ht1]; show bindR (textR l y) _ = _; rw [ht2]; show bindR (takeR l (x.to y.t.til) 4) _ = _; rw [ht3]; show bindR (textR l z) _ = _; rw [ht4]; rfl
  have f6 := f5.ext q6
  have z6 := z5.ext q6
  have o6 := o5.ext q6
  have rx6 := rx.ext q6
  clear f5 z5 o5 rx hX1 q6 rz ht1 ht2 ht3 ht4
  obtain ⟨c0, c1, c2, c3, c4, c5, c6, c7, c8, fz⟩ := f6.cells
  have oS := setOnly w6 F 3 (.string (str u))
  have f7 := f6.set3 (str u)
  have z7 := z6.only oS (by have := hs0h.out; omega)
  have o7 : Only (fun g => g = X) w (w6.setCell ⟨F, 3, none⟩ (.string (str u))) := o6.trans (oS.mono fun g _ hg => .inr (by have := hs0h.out; omega))
  have rx7 := rx6.only oS (fun e => hFX e.symm) (fun e => by have := h.rx.rd.lt; have := hs0h.out; omega) (fun a n c ev => by have := h.slt a n c ev; have := hs0h.out; omega)
  clear f6 z6 o6 rx6 oS
  go_upto_region 4 with fail
  clear c0 c1 c2 c3 c4 c5 c6 c7 c8 fz
  generalize World.setCell w6 _ _ = w7 at f7 z7 o7 rx7 ⊢
  have hE := end_any w7 X R v l p _ rx7.rx
  go_wp2_with fail
  go_at_call 120
  refine hE.mono ?_
  rintro _ w8 ⟨q8, ho⟩
  cases ht5 : endR l (x.to z.t.til) with
  | error q =>
    have ho := ho.err ht5
    subst ho
    exact ⟨rfl, o7.ext q8, outc_err (by rw [hR.out, ht5]; rfl) rfl⟩
  | ok u9 =>
  have ho := ho.ok ht5
  unfold unitE at ho
  subst ho
  have hR2 : Hid (againstR l x k = checkedR { ownK k with desc := str d, value := str u } .nil x.at_) := by show _ = _; rw [hR.out, ht5]; rfl
  have f8 := f7.ext q8
  have z8 := z7.ext q8
  have o8 := o7.ext q8
  have rx8 := rx7.ext q8
  clear f7 z7 o7 rx7 hE q8 hR ht5
  obtain ⟨c0, c1, c2, c3, c4, c5, c6, c7, c8, fz⟩ := f8.cells
  simp only at c0 c1 c2 c3 c4 c5 c6 c7 c8
  have hown : FOwn w8 ⟨k, none, 0, 0, str d, str u, ⟨#[]⟩, none, 0, 0, ⟨#[]⟩, ⟨#[]⟩, false⟩ { ownK k with desc := str d, value := str u } :=
    ⟨rfl, rfl, rfl, rfl, rfl, rfl, rfl, ⟨hdz, huz, Nat.zero_le _, Nat.zero_le _, Nat.zero_le _⟩, ssl_nil rfl (Nat.zero_le _), (fun s hs => by cases hs), by show -128 ≤ k ∧ k ≤ 127; omega⟩
  have hC := checked_any w8 X R l _ rx8.rx.ix _ _ .nil hown (fkids_nil w8 k (str d) (str u) ⟨#[]⟩ none 0 0 ⟨#[]⟩ ⟨#[]⟩ false)
  simp only [F9.arr] at hC
  go_wp2_with fail
  go_at_call 92
  refine hC.mono ?_
  rintro _ w9 ⟨q9, ho⟩
  change Outc (checkedR _ _ x.at_) _ _ at ho
  cases ht6 : checkedR { ownK k with desc := str d, value := str u } .nil x.at_ with
  | error q =>
    have ho := ho.err ht6
    subst ho
    exact ⟨rfl, o8.ext q9, outc_err (by rw [hR2.out, ht6]) rfl⟩
  | ok a9 =>
  have ho := ho.ok ht6
  subst ho
  have ha9 : a9 = { ownK k with desc := str d, value := str u } := by
    unfold checkedR at ht6
    split at ht6
    · simp only [Except.ok.injEq] at ht6; exact ht6.symm
    · cases ht6
  subst ha9
  have hR3 : Hid (againstR l x k = .ok { ownK k with desc := str d, value := str u }) := by show _ = _; rw [hR2.out, ht6]
  have z9 := z8.ext q9
  have o9 := o8.ext q9
  have i9 : IxAt w9 X R l (x.to z.t.til) := (rx8.ext q9).rx.ix
  have hown9 := hown.ext q9
  clear c0 c1 c2 c3 c4 c5 c6 c7 c8 fz f8 z8 o8 rx8 hC q9 hown hR2 ht6
  obtain ⟨d0, d1, d2, d3, d4, d5, d6, d7, d8, dz⟩ := z9.cells
  go_wp2
  have f10 := z9.put ⟨k, none, 0, 0, str d, str u, ⟨#[]⟩, none, 0, 0, ⟨#[]⟩, ⟨#[]⟩, false⟩
  have o10 := put_only w9 w.heap.size ⟨k, none, 0, 0, str d, str u, ⟨#[]⟩, none, 0, 0, ⟨#[]⟩, ⟨#[]⟩, false⟩
  refine bodyPost_ret (results_f rfl _ _ w.heap.size _ rfl rfl f10) rfl ?_
  refine ⟨o9.trans (o10.mono fun g _ hg => .inr (by omega)), outc_ok hR3.out ⟨⟨_, rfl, fun w11 _ => ⟨hown9.move (ssl_nil rfl (Nat.zero_le _)), fkids_nil _ _ _ _ _ _ _ _ _ _ _⟩⟩, _, IxA.only i9 o10 (fun e => hZX e.symm)⟩⟩
end Go.Proofs.YtdcfiphffbgocaaGreatDoor
