/-
  The document's writer in memory, told as the program's plain one; what is laid behind an error.
-/
import Derived.Test.YtdcfiphffbgocaaGreatDoorQV
import Derived.Test.YtdcfiphffbgocaaGreatDoorQD
import Derived.Deep.DeepCutAuto
namespace Go.Proofs.YtdcfiphffbgocaaGreatDoor
open Go.RowKit Go.Shelf

/-- behind an error nothing is laid -/
theorem someY_no {t : Nat} {s : List UInt8} {x : Ly} (h : x.2 ≠ 0) : someY t s x = x := by
  unfold someY
  split
  · rfl
  · exact textY_no h
theorem aroundY_no {t : Nat} {b : Ly → Ly} {x : Ly} (h : x.2 ≠ 0) (hb : b x = x) : aroundY t b x = x := by
  unfold aroundY
  rw [openY_no h, hb, closeY_no h]
theorem midsY_no : ∀ (ms : List ByteArray) {x : Ly}, x.2 ≠ 0 → ms.foldl (fun z m => textY 129 (byt m) z) x = x
  | [], _, _ => rfl
  | m :: r, x, h => by rw [List.foldl_cons, textY_no h]; exact midsY_no r h
theorem oneY_no {a : OwnF} {b : Ly → Ly} {x : Ly} (h : x.2 ≠ 0) (hb : b x = x) : oneY a b x = x := by
  have ht : ∀ t s, textY t s x = x := fun t s => textY_no h
  have hs : ∀ t s, someY t s x = x := fun t s => someY_no h
  unfold oneY againstY partY ruleY
  have h1 : ∀ t d v, aroundY t (fun y => textY 4 v (textY 4 d y)) x = x := fun t d v => aroundY_no h (by rw [ht, ht])
  have h2 : aroundY 48 (fun y => someY 130 (byt a.fin) (a.ms.foldl (fun z m => textY 129 (byt m) z) (someY 128 (byt a.start) y))) x = x := aroundY_no h (by rw [hs, midsY_no _ h, hs])
  have h3 : aroundY 164 (fun x => aroundY 48 (fun y => someY 130 (byt a.fin) (a.ms.foldl (fun z m => textY 129 (byt m) z) (someY 128 (byt a.start) y))) (textY 4 (byt a.desc) x)) x = x := aroundY_no h (by rw [ht]; exact h2)
  have h4 : aroundY 169 (fun x => if a.dn then textY 132 [255] (textY 131 (byt a.value) (someY 130 (byt a.desc) (someY 129 (byt a.rule) x))) else textY 131 (byt a.value) (someY 130 (byt a.desc) (someY 129 (byt a.rule) x))) x = x := aroundY_no h (by
    rw [hs, hs, ht, ht]; split <;> rfl)
  have h0 : ∀ t, aroundY t b x = x := fun t => aroundY_no h hb
  simp only [h0, h1, h3, h4, ht, ite_self]
theorem kidsY_no : ∀ (k : FT) {x : Ly}, x.2 ≠ 0 → kidsY k x = x
  | .nil, _, _ => rfl
  | .cons a k r, x, h => by
    have e := oneY_no (a := a) h (kidsY_no k h)
    unfold kidsY
    rw [e]
    exact kidsY_no r h

/-- the document's writer, told as the program's -/
def RfS (w : World) (S : Nat → Prop) (p : Value) (st : Wr) : Prop := ∃ R, RfAt w S p R ∧ Same R st ∧ Fine R ∧ ∀ x ∈ R, x.c ≤ 3 ∧ x.n < 31
section
variable {w w' w1 w2 : World} {S S' : Nat → Prop} {p : Value} {st : Wr} {x y z : Ly}
theorem RfS.ok (h : RfS w S p st) : WOk st := by
  obtain ⟨R, _, h2, h3, _⟩ := h
  refine ⟨?_, ?_, (h2.bound h3).2.2⟩
  · have := h2.closed 0
    rw [Nat.add_zero] at this
    rw [this]; exact h3.size
  · have := h2.len
    have := h3.deep
    omega
theorem RfS.ext (h : RfS w S p st) (e : Ext w w') : RfS w' S p st := by
  obtain ⟨R, h1, h2⟩ := h
  exact ⟨R, h1.ext e, h2⟩
theorem RfS.wide (h : RfS w S p st) (k : ∀ g, S g → S' g) : RfS w S' p st := by
  obtain ⟨R, h1, h2⟩ := h
  exact ⟨R, h1.wide k, h2⟩
theorem RfS.tight (h : RfS w S p st) : RfS w (fun g => S g ∧ g < w.heap.size) p st := by
  obtain ⟨R, h1, h2⟩ := h
  exact ⟨R, h1.tight, h2⟩
theorem RfS.kept (h : RfS w S p st) (k : Only S' w w') (hd : ∀ g, S g → ¬ S' g) : RfS w' S p st := by
  obtain ⟨R, h1, h2⟩ := h
  exact ⟨R, h1.kept k hd, h2⟩
/-- the writer has gone on, and nothing else has changed -/
def DTo (w : World) (S : Nat → Prop) (p : Value) (x : Ly) (w' : World) : Prop := RfS w' (Up S w.heap.size) p x.1 ∧ Only S w w'
theorem DTo.refl (h : RfS w S p x.1) : DTo w S p x w := ⟨h.wide (fun _ k => .inl k), Only.refl _ _⟩
theorem DTo.then (h : DTo w S p y w1) (k : DTo w1 (Up S w.heap.size) p z w2) : DTo w S p z w2 :=
  ⟨k.1.wide (up_up h.2.size), h.2.trans k.2⟩
theorem DTo.from (e : Ext w w1) (h : DTo w1 (fun g => S g ∧ g < w.heap.size) p y w2) : DTo w S p y w2 :=
  ⟨h.1.wide (fun _ hg => hg.imp (fun k => k.1) (fun k => Nat.le_trans e.size k)), e.only.then (h.2.mono fun _ _ k => k.1)⟩
theorem RfS.ptr (h : RfS w S p st) : ∃ g, p = .pointer (some ⟨g, 0, none⟩) ∧ S g := by
  obtain ⟨R, ⟨g, v, bs, e, h1⟩, _⟩ := h
  exact ⟨g, e, h1.1⟩
theorem DTo.eq (h : DTo w S p y w') (e : y.1 = x.1) : DTo w S p x w' := by unfold DTo at h ⊢; rw [← e]; exact h
end
theorem addR_tags {R : List Op} {m : List UInt8} (h : ∀ x ∈ R, x.c ≤ 3 ∧ x.n < 31) : ∀ x ∈ addR R m, x.c ≤ 3 ∧ x.n < 31 := by
  cases R with
  | nil => exact h
  | cons y r =>
    intro x hx
    rcases List.mem_cons.1 hx with rfl | hx
    · exact h y (by simp)
    · exact h x (by simp [hx])
theorem rs_begin (t : Nat) (w : World) (S : Nat → Prop) (p : Value) (st : Wr) (c n : Int) (h : RfS w S p st) (ht : t < 256) (hc : c = (t / 64 : Nat)) (hn : n = (t % 32 : Nat)) (hn2 : t % 32 < 31) :
    Calls Tryz.prog 24 #[p, .int .i8 c, .int .i64 n] w fun x w' => x = .returned (.int .i64 (openY t (st, 0)).2) ∧ DTo w S p (openY t (st, 0)) w' := by
  have hk := h.ok
  obtain ⟨R, h1, h2, h3, h4⟩ := h
  obtain ⟨e1, e2, e3⟩ := begin_same h2 h3 c n hk.low
  refine (Begin_any w S p R c n h1 h3).mono ?_
  rintro _ w' ⟨rfl, k1, k2⟩
  have hY : openY t (st, 0) = (openQ st c n, openE st c n) := by rw [hc, hn]; exact if_pos rfl
  rw [hY]
  refine ⟨by rw [e1], ⟨beginR R c n, k1, ?_, e3, ?_⟩, k2⟩
  · simp only [openQ_eq hk]; exact e2
  · unfold beginR
    split
    · intro x hx
      rcases List.mem_cons.1 hx with rfl | hx
      · simp only [hc, hn]; omega
      · exact h4 x hx
    · exact h4
theorem rs_put {w : World} {S : Nat → Prop} {p : Value} {st : Wr} {t : Nat} {c n : Int} {R : List Op} {w' : World} {m : List UInt8} (h2 : Same R st) (h3 : Fine R) (h4 : ∀ x ∈ R, x.c ≤ 3 ∧ x.n < 31) (hc : c = (t / 64 : Nat)) (hn : n = (t % 32 : Nat))
    (k1 : RfAt w' (Up S w.heap.size) p (putR R c n m)) (k2 : Only S w w') : putE R c n m = (textY t m (st, 0)).2 ∧ DTo w S p (textY t m (st, 0)) w' := by
  obtain ⟨e1, e2, e3⟩ := put_same h2 h3 c n m
  have hY : textY t m (st, 0) = (layW st c n m, layE st c n m) := by rw [hc, hn]; exact if_pos rfl
  rw [hY]
  refine ⟨e1.symm, ⟨putR R c n m, k1, e2, e3, ?_⟩, k2⟩
  unfold putR
  split
  · exact addR_tags h4
  · exact h4
theorem rs_textL (t : Nat) (w : World) (S : Nat → Prop) (p : Value) (st : Wr) (c n : Int) (s : ByteArray) (h : RfS w S p st) (hc : c = (t / 64 : Nat)) (hn : n = (t % 32 : Nat)) (hs : s.size ≤ 140737488355328) :
    Calls Tryz.prog 26 #[p, .int .i8 c, .int .i64 n, .string s] w fun x w' => x = .returned (.int .i64 (textY t (byt s) (st, 0)).2) ∧ DTo w S p (textY t (byt s) (st, 0)) w' := by
  obtain ⟨R, h1, h2, h3, h4⟩ := h
  refine (rText'_any w S p R c n s h1 h3 hs).mono ?_
  rintro _ w' ⟨rfl, k1, k2⟩
  obtain ⟨e, d⟩ := rs_put (t := t) h2 h3 h4 hc hn k1 k2
  exact ⟨by rw [e], d⟩
theorem rs_text (t : Nat) (w : World) (S : Nat → Prop) (p : Value) (st : Wr) (c n : Int) (s : ByteArray) (h : RfS w S p st) (hc : c = (t / 64 : Nat)) (hn : n = (t % 32 : Nat)) (hs : s.size ≤ 65536) :
    Calls Tryz.prog 26 #[p, .int .i8 c, .int .i64 n, .string s] w fun x w' => x = .returned (.int .i64 (textY t (byt s) (st, 0)).2) ∧ DTo w S p (textY t (byt s) (st, 0)) w' := rs_textL t w S p st c n s h hc hn (by omega)
theorem rs_flag (t : Nat) (w : World) (S : Nat → Prop) (p : Value) (st : Wr) (c n : Int) (h : RfS w S p st) (hc : c = (t / 64 : Nat)) (hn : n = (t % 32 : Nat)) :
    Calls Tryz.prog 78 #[p, .int .i8 c, .int .i64 n, .bool true] w fun x w' => x = .returned (.int .i64 (textY t [255] (st, 0)).2) ∧ DTo w S p (textY t [255] (st, 0)) w' := by
  obtain ⟨R, h1, h2, h3, h4⟩ := h
  refine (rFlag'_any w S p R c n true h1 h3).mono ?_
  rintro _ w' ⟨rfl, k1, k2⟩
  obtain ⟨e, d⟩ := rs_put (t := t) (m := [255]) h2 h3 h4 hc hn k1 k2
  exact ⟨by rw [← e]; rfl, d⟩
theorem wendR_tags {R : List Op} (h : ∀ x ∈ R, x.c ≤ 3 ∧ x.n < 31) : ∀ x ∈ wendR R, x.c ≤ 3 ∧ x.n < 31 := by
  match R, h with
  | [], h => exact h
  | [_], h => exact h
  | a :: y :: r, h =>
    intro x hx
    rcases List.mem_cons.1 hx with rfl | hx
    · exact h y (by simp)
    · exact h x (by simp [hx])
theorem rs_end (w : World) (S : Nat → Prop) (p : Value) (st : Wr) (h : RfS w S p st) :
    Calls Tryz.prog 31 #[p] w fun x w' => x = .returned (.int .i64 (closeY (st, 0)).2) ∧ DTo w S p (closeY (st, 0)) w' := by
  obtain ⟨R, h1, h2, h3, h4⟩ := h
  obtain ⟨e1, e2, e3⟩ := end_same h2 h3
  refine (End_any w S p R h1 h3 h4).mono ?_
  rintro _ w' ⟨rfl, k1, k2⟩
  have hY : closeY (st, 0) = (closeW st, closeE st) := if_pos rfl
  rw [hY]
  exact ⟨by rw [e1], ⟨wendR R, k1, e2, e3, wendR_tags h4⟩, k2⟩
/-- how many are open -/
theorem text_open {t : Nat} {s : List UInt8} {x : Ly} : (textY t s x).1.opn.length = x.1.opn.length := by
  unfold textY layW
  split
  · split <;> rfl
  · rfl
theorem some_open {t : Nat} {s : List UInt8} {x : Ly} : (someY t s x).1.opn.length = x.1.opn.length := by
  unfold someY
  split
  · rfl
  · exact text_open
theorem mids_open : ∀ (ms : List ByteArray) {x : Ly}, (ms.foldl (fun z m => textY 129 (byt m) z) x).1.opn.length = x.1.opn.length
  | [], _ => rfl
  | m :: r, x => by rw [List.foldl_cons, mids_open r, text_open]
theorem open_open {t : Nat} {x : Ly} (hk : WOk x.1) (h0 : x.2 = 0) (h : (openY t x).2 = 0) : (openY t x).1.opn.length = x.1.opn.length + 1 := by
  obtain ⟨st, e⟩ := x
  simp only at h0 hk
  subst h0
  have hY : openY t (st, 0) = (openQ st (t / 64 : Nat) (t % 32 : Nat), openE st (t / 64 : Nat) (t % 32 : Nat)) := if_pos rfl
  rw [hY] at h ⊢
  simp only at h ⊢
  rw [openQ_eq hk]
  unfold openW
  rw [if_pos h]
  simp
theorem close_open {x : Ly} (h0 : x.2 = 0) (h : 1 ≤ x.1.opn.length) : (closeY x).2 = 0 ∧ (closeY x).1.opn.length = x.1.opn.length - 1 := by
  obtain ⟨⟨la, op⟩, e⟩ := x
  simp only at h0 h
  subst h0
  cases op with
  | nil => simp at h
  | cons a r => exact ⟨rfl, by show r.length = _; simp⟩
theorem midsY_no' (ms : List ByteArray) {x : Ly} (h : x.2 ≠ 0) : midsY ms x = x := midsY_no ms h
/-- where the pieces are laid the item around them can be closed -/
theorem pieces_close {d e : List UInt8} {ms : List ByteArray} {x : Ly} (hk : WOk x.1) (h : (someY 130 e (midsY ms (someY 128 d (openY 48 x)))).2 = 0) : (closeY (someY 130 e (midsY ms (someY 128 d (openY 48 x))))).2 = 0 := by
  have hx : x.2 = 0 := by
    by_cases k : x.2 = 0
    · exact k
    · rw [openY_no k, someY_no k, midsY_no' ms k, someY_no k] at h; exact h
  have h1 : (openY 48 x).2 = 0 := by
    by_cases k : (openY 48 x).2 = 0
    · exact k
    · rw [someY_no k, midsY_no' ms k, someY_no k] at h; exact absurd h k
  have h2 := open_open hk hx h1
  refine (close_open h ?_).1
  rw [some_open]
  unfold midsY
  rw [mids_open, some_open, h2]
  omega
theorem txt_neb (s : ByteArray) : (!s.toList.isEmpty) = decide (¬ s.size = 0) := by
  have h := txt_nil' s
  by_cases k : s.size = 0
  · rw [decide_eq_true k] at h
    have h' : s.toList.isEmpty = true := by simpa using h
    rw [h', decide_eq_false (fun j => j k)]; rfl
  · rw [decide_eq_false k] at h
    have h' : s.toList.isEmpty = false := by simpa using h
    rw [h', decide_eq_true k]; rfl
end Go.Proofs.YtdcfiphffbgocaaGreatDoor

/-
  The document's Lay: have, two texts, rule (written by gen/mkpl.py).
-/
namespace Go.Proofs.YtdcfiphffbgocaaGreatDoor
open Go.RowKit Go.Shelf

set_option maxRecDepth 100000 in
set_option maxHeartbeats 8000000 in
theorem dl_7 (w : World) (S : Nat → Prop) (p : Value) (st : Wr) (ka : Option Addr) (kn kc : Nat) (desc value start : ByteArray) (ma : Option Addr) (mn mc : Nat) (fin rule : ByteArray) (dn : Bool) (h : RfS w S p st) (hd : desc.size ≤ 65536) :
    Calls Tryz.prog 50 #[p, .agg #[.int .i8 7, .slice ka kn kc, .string desc, .string value, .string start, .slice ma mn mc, .string fin, .string rule, .bool dn]] w fun e w' => e = .returned (.int .i64 (textY 135 (byt desc) (st, 0)).2) ∧ DTo w S p (textY 135 (byt desc) (st, 0)) w' := by
  have q1 : FlT (w.alloc (.cells #[.int .i8 7, .slice ka kn kc, .string desc, .string value, .string start, .slice ma mn mc, .string fin, .string rule, .bool dn] 27)) w.heap.size ⟨7, ka, kn, kc, desc, value, start, ma, mn, mc, fin, rule, dn⟩ := heap_alloc_new _ _
  have x1 := (Ext.refl w).alloc (.cells #[.int .i8 7, .slice ka kn kc, .string desc, .string value, .string start, .slice ma mn mc, .string fin, .string rule, .bool dn] 27)
  obtain ⟨Z, hZ⟩ : ∃ Z, Hid (Z = textY 135 (byt desc) (st, 0)) := ⟨_, rfl⟩
  rw [← hZ.out]
  obtain ⟨S1, hS1⟩ : ∃ S1 : Nat → Prop, S1 = fun g => S g ∧ g < w.heap.size := ⟨_, rfl⟩
  have nb : Hid (∀ g, S1 g → g ≠ w.heap.size) := fun g k => by rw [hS1] at k; have := k.2; omega
  have hD : Hid (∀ W, Ext w W → ∀ y w2, DTo W S1 p y w2 → DTo w S p y w2) := fun W e y w2 k => by rw [hS1] at k; exact DTo.from e k
  have d0 : RfS (w.alloc (.cells #[.int .i8 7, .slice ka kn kc, .string desc, .string value, .string start, .slice ma mn mc, .string fin, .string rule, .bool dn] 27)) S1 p st := by rw [hS1]; exact h.tight.ext x1
  clear hS1 h
  go_enter Tryz.func50, Tryz.ntmps50
  go_upto_region 1 with fail
  generalize World.alloc w _ = w1 at q1 x1 d0 ⊢
  have hD : Hid (∀ y w2, DTo w1 S1 p y w2 → DTo w S p y w2) := hD.out w1 x1
  generalize w.heap.size = HS at q1 nb ⊢
  obtain ⟨c0, c1, c2, c3, c4, c5, c6, c7, c8, -⟩ := q1.cells
  simp only at c0 c1 c2 c3 c4 c5 c6 c7 c8
  go_wp2_with fail
  go_at_call 26
  refine (rs_text 135 w1 S1 p st 2 7 desc d0 rfl rfl hd).mono ?_
  rintro _ w2 ⟨rfl, t2⟩
  try dsimp only
  have d2 := t2
  clear t2
  generalize textY 135 (byt desc) (st, 0) = y2 at d2 hZ ⊢
  obtain ⟨s2, e2⟩ := y2
  have d2 : Hid (DTo w1 S1 p (s2, e2) w2) := d2
  go_wp2
  go_ret
  rw [hZ.out]
  exact ⟨rfl, hD.out _ _ d2.out⟩
set_option maxRecDepth 100000 in
set_option maxHeartbeats 8000000 in
theorem dl_3 (w : World) (S : Nat → Prop) (p : Value) (st : Wr) (ka : Option Addr) (kn kc : Nat) (desc value start : ByteArray) (ma : Option Addr) (mn mc : Nat) (fin rule : ByteArray) (dn : Bool) (h : RfS w S p st) (hd : desc.size ≤ 65536) (hv : value.size ≤ 65536) :
    Calls Tryz.prog 50 #[p, .agg #[.int .i8 3, .slice ka kn kc, .string desc, .string value, .string start, .slice ma mn mc, .string fin, .string rule, .bool dn]] w fun e w' => e = .returned (.int .i64 (againstY 163 (byt desc) (byt value) (st, 0)).2) ∧ DTo w S p (againstY 163 (byt desc) (byt value) (st, 0)) w' := by
  have hT : ∀ W, Calls Tryz.prog 68 #[.int .i8 3] W fun x w' => x = .returned (.int .i64 3) ∧ w' = W := fun W => twoTag_any W 3
  have q1 : FlT (w.alloc (.cells #[.int .i8 3, .slice ka kn kc, .string desc, .string value, .string start, .slice ma mn mc, .string fin, .string rule, .bool dn] 27)) w.heap.size ⟨3, ka, kn, kc, desc, value, start, ma, mn, mc, fin, rule, dn⟩ := heap_alloc_new _ _
  have x1 := (Ext.refl w).alloc (.cells #[.int .i8 3, .slice ka kn kc, .string desc, .string value, .string start, .slice ma mn mc, .string fin, .string rule, .bool dn] 27)
  obtain ⟨Z, hZ⟩ : ∃ Z, Hid (Z = closeY (textY 4 (byt value) (textY 4 (byt desc) (openY 163 (st, 0))))) := ⟨_, rfl⟩
  rw [show againstY 163 (byt desc) (byt value) (st, 0) = Z from hZ.out.symm]
  obtain ⟨S1, hS1⟩ : ∃ S1 : Nat → Prop, S1 = fun g => S g ∧ g < w.heap.size := ⟨_, rfl⟩
  have nb : Hid (∀ g, S1 g → g ≠ w.heap.size) := fun g k => by rw [hS1] at k; have := k.2; omega
  have hD : Hid (∀ W, Ext w W → ∀ y w2, DTo W S1 p y w2 → DTo w S p y w2) := fun W e y w2 k => by rw [hS1] at k; exact DTo.from e k
  have d0 : RfS (w.alloc (.cells #[.int .i8 3, .slice ka kn kc, .string desc, .string value, .string start, .slice ma mn mc, .string fin, .string rule, .bool dn] 27)) S1 p st := by rw [hS1]; exact h.tight.ext x1
  clear hS1 h
  go_enter Tryz.func50, Tryz.ntmps50
  go_upto_region 1 with fail
  generalize World.alloc w _ = w1 at q1 x1 d0 ⊢
  have hD : Hid (∀ y w2, DTo w1 S1 p y w2 → DTo w S p y w2) := hD.out w1 x1
  generalize w.heap.size = HS at q1 nb ⊢
  obtain ⟨c0, c1, c2, c3, c4, c5, c6, c7, c8, -⟩ := q1.cells
  simp only at c0 c1 c2 c3 c4 c5 c6 c7 c8
  have q1c2 := c2
  have q1c3 := c3
  go_wp2_with fail
  go_at_call 68
  refine (hT w1).mono ?_
  rintro _ wz ⟨rfl, hwz⟩
  obtain rfl := hwz.symm
  try dsimp only
  go_wp2_with fail
  go_at_call 24
  refine (rs_begin 163 w1 S1 p st 2 3 d0 (by omega) rfl rfl (by omega)).mono ?_
  rintro _ w2 ⟨rfl, t2⟩
  try dsimp only
  have d2 := t2
  clear t2
  generalize openY 163 (st, 0) = y2 at d2 hZ ⊢
  obtain ⟨s2, e2⟩ := y2
  have d2 : Hid (DTo w1 S1 p (s2, e2) w2) := d2
  by_cases hz : e2 = 0
  case neg =>
    have h2 : (s2, e2).2 ≠ 0 := hz
    have hE : Hid (Z = (s2, e2)) := by show _ = _; rw [hZ.out]; simp only [textY_no h2, closeY_no h2]
    have hz' : ¬ (e2 : Int) = 0 := by have : ¬ e2 = 0 := hz; omega
    clear hz h2 hZ
    go_wp2
    go_ret
    rw [hE.out]
    exact ⟨rfl, hD.out _ _ d2.out⟩
  case pos =>
  subst hz
  have c2 := d2.out.2.cell q1c2 (fun k => nb.out _ k rfl)
  have c3 := d2.out.2.cell q1c3 (fun k => nb.out _ k rfl)
  go_wp2_with fail
  go_at_call 26
  refine (rs_text 4 w2 _ p s2 0 4 desc d2.out.1 rfl rfl hd).mono ?_
  rintro _ w3 ⟨rfl, t3⟩
  try dsimp only
  have d3 := d2.out.then t3
  clear t3
  generalize textY 4 (byt desc) (s2, 0) = y3 at d3 hZ ⊢
  obtain ⟨s3, e3⟩ := y3
  have d3 : Hid (DTo w1 S1 p (s3, e3) w3) := d3
  by_cases hz : e3 = 0
  case neg =>
    have h3 : (s3, e3).2 ≠ 0 := hz
    have hE : Hid (Z = (s3, e3)) := by show _ = _; rw [hZ.out]; simp only [textY_no h3, closeY_no h3]
    have hz' : ¬ (e3 : Int) = 0 := by have : ¬ e3 = 0 := hz; omega
    clear hz h3 hZ
    go_wp2
    go_ret
    rw [hE.out]
    exact ⟨rfl, hD.out _ _ d3.out⟩
  case pos =>
  subst hz
  have c3 := d3.out.2.cell q1c3 (fun k => nb.out _ k rfl)
  go_wp2_with fail
  go_at_call 26
  refine (rs_text 4 w3 _ p s3 0 4 value d3.out.1 rfl rfl hv).mono ?_
  rintro _ w4 ⟨rfl, t4⟩
  try dsimp only
  have d4 := d3.out.then t4
  clear t4
  generalize textY 4 (byt value) (s3, 0) = y4 at d4 hZ ⊢
  obtain ⟨s4, e4⟩ := y4
  have d4 : Hid (DTo w1 S1 p (s4, e4) w4) := d4
  by_cases hz : e4 = 0
  case neg =>
    have h4 : (s4, e4).2 ≠ 0 := hz
    have hE : Hid (Z = (s4, e4)) := by show _ = _; rw [hZ.out]; simp only [closeY_no h4]
    have hz' : ¬ (e4 : Int) = 0 := by have : ¬ e4 = 0 := hz; omega
    clear hz h4 hZ
    go_wp2
    go_ret
    rw [hE.out]
    exact ⟨rfl, hD.out _ _ d4.out⟩
  case pos =>
  subst hz
  go_wp2_with fail
  go_at_call 31
  refine (rs_end w4 _ p s4 d4.out.1).mono ?_
  rintro _ w5 ⟨rfl, t5⟩
  try dsimp only
  have d5 := d4.out.then t5
  clear t5
  generalize closeY (s4, 0) = y5 at d5 hZ ⊢
  obtain ⟨s5, e5⟩ := y5
  have d5 : Hid (DTo w1 S1 p (s5, e5) w5) := d5
  go_wp2
  go_ret
  rw [hZ.out]
  exact ⟨rfl, hD.out _ _ d5.out⟩
set_option maxRecDepth 100000 in
set_option maxHeartbeats 8000000 in
theorem dl_5 (w : World) (S : Nat → Prop) (p : Value) (st : Wr) (ka : Option Addr) (kn kc : Nat) (desc value start : ByteArray) (ma : Option Addr) (mn mc : Nat) (fin rule : ByteArray) (dn : Bool) (h : RfS w S p st) (hd : desc.size ≤ 65536) (hv : value.size ≤ 65536) :
    Calls Tryz.prog 50 #[p, .agg #[.int .i8 5, .slice ka kn kc, .string desc, .string value, .string start, .slice ma mn mc, .string fin, .string rule, .bool dn]] w fun e w' => e = .returned (.int .i64 (againstY 165 (byt desc) (byt value) (st, 0)).2) ∧ DTo w S p (againstY 165 (byt desc) (byt value) (st, 0)) w' := by
  have hT : ∀ W, Calls Tryz.prog 68 #[.int .i8 5] W fun x w' => x = .returned (.int .i64 5) ∧ w' = W := fun W => twoTag_any W 5
  have q1 : FlT (w.alloc (.cells #[.int .i8 5, .slice ka kn kc, .string desc, .string value, .string start, .slice ma mn mc, .string fin, .string rule, .bool dn] 27)) w.heap.size ⟨5, ka, kn, kc, desc, value, start, ma, mn, mc, fin, rule, dn⟩ := heap_alloc_new _ _
  have x1 := (Ext.refl w).alloc (.cells #[.int .i8 5, .slice ka kn kc, .string desc, .string value, .string start, .slice ma mn mc, .string fin, .string rule, .bool dn] 27)
  obtain ⟨Z, hZ⟩ : ∃ Z, Hid (Z = closeY (textY 4 (byt value) (textY 4 (byt desc) (openY 165 (st, 0))))) := ⟨_, rfl⟩
  rw [show againstY 165 (byt desc) (byt value) (st, 0) = Z from hZ.out.symm]
  obtain ⟨S1, hS1⟩ : ∃ S1 : Nat → Prop, S1 = fun g => S g ∧ g < w.heap.size := ⟨_, rfl⟩
  have nb : Hid (∀ g, S1 g → g ≠ w.heap.size) := fun g k => by rw [hS1] at k; have := k.2; omega
  have hD : Hid (∀ W, Ext w W → ∀ y w2, DTo W S1 p y w2 → DTo w S p y w2) := fun W e y w2 k => by rw [hS1] at k; exact DTo.from e k
  have d0 : RfS (w.alloc (.cells #[.int .i8 5, .slice ka kn kc, .string desc, .string value, .string start, .slice ma mn mc, .string fin, .string rule, .bool dn] 27)) S1 p st := by rw [hS1]; exact h.tight.ext x1
  clear hS1 h
  go_enter Tryz.func50, Tryz.ntmps50
  go_upto_region 1 with fail
  generalize World.alloc w _ = w1 at q1 x1 d0 ⊢
  have hD : Hid (∀ y w2, DTo w1 S1 p y w2 → DTo w S p y w2) := hD.out w1 x1
  generalize w.heap.size = HS at q1 nb ⊢
  obtain ⟨c0, c1, c2, c3, c4, c5, c6, c7, c8, -⟩ := q1.cells
  simp only at c0 c1 c2 c3 c4 c5 c6 c7 c8
  have q1c2 := c2
  have q1c3 := c3
  go_wp2_with fail
  go_at_call 68
  refine (hT w1).mono ?_
  rintro _ wz ⟨rfl, hwz⟩
  obtain rfl := hwz.symm
  try dsimp only
  go_wp2_with fail
  go_at_call 24
  refine (rs_begin 165 w1 S1 p st 2 5 d0 (by omega) rfl rfl (by omega)).mono ?_
  rintro _ w2 ⟨rfl, t2⟩
  try dsimp only
  have d2 := t2
  clear t2
  generalize openY 165 (st, 0) = y2 at d2 hZ ⊢
  obtain ⟨s2, e2⟩ := y2
  have d2 : Hid (DTo w1 S1 p (s2, e2) w2) := d2
  by_cases hz : e2 = 0
  case neg =>
    have h2 : (s2, e2).2 ≠ 0 := hz
    have hE : Hid (Z = (s2, e2)) := by show _ = _; rw [hZ.out]; simp only [textY_no h2, closeY_no h2]
    have hz' : ¬ (e2 : Int) = 0 := by have : ¬ e2 = 0 := hz; omega
    clear hz h2 hZ
    go_wp2
    go_ret
    rw [hE.out]
    exact ⟨rfl, hD.out _ _ d2.out⟩
  case pos =>
  subst hz
  have c2 := d2.out.2.cell q1c2 (fun k => nb.out _ k rfl)
  have c3 := d2.out.2.cell q1c3 (fun k => nb.out _ k rfl)
  go_wp2_with fail
  go_at_call 26
  refine (rs_text 4 w2 _ p s2 0 4 desc d2.out.1 rfl rfl hd).mono ?_
  rintro _ w3 ⟨rfl, t3⟩
  try dsimp only
  have d3 := d2.out.then t3
  clear t3
  generalize textY 4 (byt desc) (s2, 0) = y3 at d3 hZ ⊢
  obtain ⟨s3, e3⟩ := y3
  have d3 : Hid (DTo w1 S1 p (s3, e3) w3) := d3
  by_cases hz : e3 = 0
  case neg =>
    have h3 : (s3, e3).2 ≠ 0 := hz
    have hE : Hid (Z = (s3, e3)) := by show _ = _; rw [hZ.out]; simp only [textY_no h3, closeY_no h3]
    have hz' : ¬ (e3 : Int) = 0 := by have : ¬ e3 = 0 := hz; omega
    clear hz h3 hZ
    go_wp2
    go_ret
    rw [hE.out]
    exact ⟨rfl, hD.out _ _ d3.out⟩
  case pos =>
  subst hz
  have c3 := d3.out.2.cell q1c3 (fun k => nb.out _ k rfl)
  go_wp2_with fail
  go_at_call 26
  refine (rs_text 4 w3 _ p s3 0 4 value d3.out.1 rfl rfl hv).mono ?_
  rintro _ w4 ⟨rfl, t4⟩
  try dsimp only
  have d4 := d3.out.then t4
  clear t4
  generalize textY 4 (byt value) (s3, 0) = y4 at d4 hZ ⊢
  obtain ⟨s4, e4⟩ := y4
  have d4 : Hid (DTo w1 S1 p (s4, e4) w4) := d4
  by_cases hz : e4 = 0
  case neg =>
    have h4 : (s4, e4).2 ≠ 0 := hz
    have hE : Hid (Z = (s4, e4)) := by show _ = _; rw [hZ.out]; simp only [closeY_no h4]
    have hz' : ¬ (e4 : Int) = 0 := by have : ¬ e4 = 0 := hz; omega
    clear hz h4 hZ
    go_wp2
    go_ret
    rw [hE.out]
    exact ⟨rfl, hD.out _ _ d4.out⟩
  case pos =>
  subst hz
  go_wp2_with fail
  go_at_call 31
  refine (rs_end w4 _ p s4 d4.out.1).mono ?_
  rintro _ w5 ⟨rfl, t5⟩
  try dsimp only
  have d5 := d4.out.then t5
  clear t5
  generalize closeY (s4, 0) = y5 at d5 hZ ⊢
  obtain ⟨s5, e5⟩ := y5
  have d5 : Hid (DTo w1 S1 p (s5, e5) w5) := d5
  go_wp2
  go_ret
  rw [hZ.out]
  exact ⟨rfl, hD.out _ _ d5.out⟩
set_option maxRecDepth 100000 in
set_option maxHeartbeats 8000000 in
theorem dl_6 (w : World) (S : Nat → Prop) (p : Value) (st : Wr) (ka : Option Addr) (kn kc : Nat) (desc value start : ByteArray) (ma : Option Addr) (mn mc : Nat) (fin rule : ByteArray) (dn : Bool) (h : RfS w S p st) (hd : desc.size ≤ 65536) (hv : value.size ≤ 65536) :
    Calls Tryz.prog 50 #[p, .agg #[.int .i8 6, .slice ka kn kc, .string desc, .string value, .string start, .slice ma mn mc, .string fin, .string rule, .bool dn]] w fun e w' => e = .returned (.int .i64 (againstY 166 (byt desc) (byt value) (st, 0)).2) ∧ DTo w S p (againstY 166 (byt desc) (byt value) (st, 0)) w' := by
  have hT : ∀ W, Calls Tryz.prog 68 #[.int .i8 6] W fun x w' => x = .returned (.int .i64 6) ∧ w' = W := fun W => twoTag_any W 6
  have q1 : FlT (w.alloc (.cells #[.int .i8 6, .slice ka kn kc, .string desc, .string value, .string start, .slice ma mn mc, .string fin, .string rule, .bool dn] 27)) w.heap.size ⟨6, ka, kn, kc, desc, value, start, ma, mn, mc, fin, rule, dn⟩ := heap_alloc_new _ _
  have x1 := (Ext.refl w).alloc (.cells #[.int .i8 6, .slice ka kn kc, .string desc, .string value, .string start, .slice ma mn mc, .string fin, .string rule, .bool dn] 27)
  obtain ⟨Z, hZ⟩ : ∃ Z, Hid (Z = closeY (textY 4 (byt value) (textY 4 (byt desc) (openY 166 (st, 0))))) := ⟨_, rfl⟩
  rw [show againstY 166 (byt desc) (byt value) (st, 0) = Z from hZ.out.symm]
  obtain ⟨S1, hS1⟩ : ∃ S1 : Nat → Prop, S1 = fun g => S g ∧ g < w.heap.size := ⟨_, rfl⟩
  have nb : Hid (∀ g, S1 g → g ≠ w.heap.size) := fun g k => by rw [hS1] at k; have := k.2; omega
  have hD : Hid (∀ W, Ext w W → ∀ y w2, DTo W S1 p y w2 → DTo w S p y w2) := fun W e y w2 k => by rw [hS1] at k; exact DTo.from e k
  have d0 : RfS (w.alloc (.cells #[.int .i8 6, .slice ka kn kc, .string desc, .string value, .string start, .slice ma mn mc, .string fin, .string rule, .bool dn] 27)) S1 p st := by rw [hS1]; exact h.tight.ext x1
  clear hS1 h
  go_enter Tryz.func50, Tryz.ntmps50
  go_upto_region 1 with fail
  generalize World.alloc w _ = w1 at q1 x1 d0 ⊢
  have hD : Hid (∀ y w2, DTo w1 S1 p y w2 → DTo w S p y w2) := hD.out w1 x1
  generalize w.heap.size = HS at q1 nb ⊢
  obtain ⟨c0, c1, c2, c3, c4, c5, c6, c7, c8, -⟩ := q1.cells
  simp only at c0 c1 c2 c3 c4 c5 c6 c7 c8
  have q1c2 := c2
  have q1c3 := c3
  go_wp2_with fail
  go_at_call 68
  refine (hT w1).mono ?_
  rintro _ wz ⟨rfl, hwz⟩
  obtain rfl := hwz.symm
  try dsimp only
  go_wp2_with fail
  go_at_call 24
  refine (rs_begin 166 w1 S1 p st 2 6 d0 (by omega) rfl rfl (by omega)).mono ?_
  rintro _ w2 ⟨rfl, t2⟩
  try dsimp only
  have d2 := t2
  clear t2
  generalize openY 166 (st, 0) = y2 at d2 hZ ⊢
  obtain ⟨s2, e2⟩ := y2
  have d2 : Hid (DTo w1 S1 p (s2, e2) w2) := d2
  by_cases hz : e2 = 0
  case neg =>
    have h2 : (s2, e2).2 ≠ 0 := hz
    have hE : Hid (Z = (s2, e2)) := by show _ = _; rw [hZ.out]; simp only [textY_no h2, closeY_no h2]
    have hz' : ¬ (e2 : Int) = 0 := by have : ¬ e2 = 0 := hz; omega
    clear hz h2 hZ
    go_wp2
    go_ret
    rw [hE.out]
    exact ⟨rfl, hD.out _ _ d2.out⟩
  case pos =>
  subst hz
  have c2 := d2.out.2.cell q1c2 (fun k => nb.out _ k rfl)
  have c3 := d2.out.2.cell q1c3 (fun k => nb.out _ k rfl)
  go_wp2_with fail
  go_at_call 26
  refine (rs_text 4 w2 _ p s2 0 4 desc d2.out.1 rfl rfl hd).mono ?_
  rintro _ w3 ⟨rfl, t3⟩
  try dsimp only
  have d3 := d2.out.then t3
  clear t3
  generalize textY 4 (byt desc) (s2, 0) = y3 at d3 hZ ⊢
  obtain ⟨s3, e3⟩ := y3
  have d3 : Hid (DTo w1 S1 p (s3, e3) w3) := d3
  by_cases hz : e3 = 0
  case neg =>
    have h3 : (s3, e3).2 ≠ 0 := hz
    have hE : Hid (Z = (s3, e3)) := by show _ = _; rw [hZ.out]; simp only [textY_no h3, closeY_no h3]
    have hz' : ¬ (e3 : Int) = 0 := by have : ¬ e3 = 0 := hz; omega
    clear hz h3 hZ
    go_wp2
    go_ret
    rw [hE.out]
    exact ⟨rfl, hD.out _ _ d3.out⟩
  case pos =>
  subst hz
  have c3 := d3.out.2.cell q1c3 (fun k => nb.out _ k rfl)
  go_wp2_with fail
  go_at_call 26
  refine (rs_text 4 w3 _ p s3 0 4 value d3.out.1 rfl rfl hv).mono ?_
  rintro _ w4 ⟨rfl, t4⟩
  try dsimp only
  have d4 := d3.out.then t4
  clear t4
  generalize textY 4 (byt value) (s3, 0) = y4 at d4 hZ ⊢
  obtain ⟨s4, e4⟩ := y4
  have d4 : Hid (DTo w1 S1 p (s4, e4) w4) := d4
  by_cases hz : e4 = 0
  case neg =>
    have h4 : (s4, e4).2 ≠ 0 := hz
    have hE : Hid (Z = (s4, e4)) := by show _ = _; rw [hZ.out]; simp only [closeY_no h4]
    have hz' : ¬ (e4 : Int) = 0 := by have : ¬ e4 = 0 := hz; omega
    clear hz h4 hZ
    go_wp2
    go_ret
    rw [hE.out]
    exact ⟨rfl, hD.out _ _ d4.out⟩
  case pos =>
  subst hz
  go_wp2_with fail
  go_at_call 31
  refine (rs_end w4 _ p s4 d4.out.1).mono ?_
  rintro _ w5 ⟨rfl, t5⟩
  try dsimp only
  have d5 := d4.out.then t5
  clear t5
  generalize closeY (s4, 0) = y5 at d5 hZ ⊢
  obtain ⟨s5, e5⟩ := y5
  have d5 : Hid (DTo w1 S1 p (s5, e5) w5) := d5
  go_wp2
  go_ret
  rw [hZ.out]
  exact ⟨rfl, hD.out _ _ d5.out⟩
set_option maxRecDepth 100000 in
set_option maxHeartbeats 8000000 in
theorem dl_8 (w : World) (S : Nat → Prop) (p : Value) (st : Wr) (ka : Option Addr) (kn kc : Nat) (desc value start : ByteArray) (ma : Option Addr) (mn mc : Nat) (fin rule : ByteArray) (dn : Bool) (h : RfS w S p st) (hd : desc.size ≤ 65536) (hv : value.size ≤ 65536) :
    Calls Tryz.prog 50 #[p, .agg #[.int .i8 8, .slice ka kn kc, .string desc, .string value, .string start, .slice ma mn mc, .string fin, .string rule, .bool dn]] w fun e w' => e = .returned (.int .i64 (againstY 168 (byt desc) (byt value) (st, 0)).2) ∧ DTo w S p (againstY 168 (byt desc) (byt value) (st, 0)) w' := by
  have hT : ∀ W, Calls Tryz.prog 68 #[.int .i8 8] W fun x w' => x = .returned (.int .i64 8) ∧ w' = W := fun W => twoTag_any W 8
  have q1 : FlT (w.alloc (.cells #[.int .i8 8, .slice ka kn kc, .string desc, .string value, .string start, .slice ma mn mc, .string fin, .string rule, .bool dn] 27)) w.heap.size ⟨8, ka, kn, kc, desc, value, start, ma, mn, mc, fin, rule, dn⟩ := heap_alloc_new _ _
  have x1 := (Ext.refl w).alloc (.cells #[.int .i8 8, .slice ka kn kc, .string desc, .string value, .string start, .slice ma mn mc, .string fin, .string rule, .bool dn] 27)
  obtain ⟨Z, hZ⟩ : ∃ Z, Hid (Z = closeY (textY 4 (byt value) (textY 4 (byt desc) (openY 168 (st, 0))))) := ⟨_, rfl⟩
  rw [show againstY 168 (byt desc) (byt value) (st, 0) = Z from hZ.out.symm]
  obtain ⟨S1, hS1⟩ : ∃ S1 : Nat → Prop, S1 = fun g => S g ∧ g < w.heap.size := ⟨_, rfl⟩
  have nb : Hid (∀ g, S1 g → g ≠ w.heap.size) := fun g k => by rw [hS1] at k; have := k.2; omega
  have hD : Hid (∀ W, Ext w W → ∀ y w2, DTo W S1 p y w2 → DTo w S p y w2) := fun W e y w2 k => by rw [hS1] at k; exact DTo.from e k
  have d0 : RfS (w.alloc (.cells #[.int .i8 8, .slice ka kn kc, .string desc, .string value, .string start, .slice ma mn mc, .string fin, .string rule, .bool dn] 27)) S1 p st := by rw [hS1]; exact h.tight.ext x1
  clear hS1 h
  go_enter Tryz.func50, Tryz.ntmps50
  go_upto_region 1 with fail
  generalize World.alloc w _ = w1 at q1 x1 d0 ⊢
  have hD : Hid (∀ y w2, DTo w1 S1 p y w2 → DTo w S p y w2) := hD.out w1 x1
  generalize w.heap.size = HS at q1 nb ⊢
  obtain ⟨c0, c1, c2, c3, c4, c5, c6, c7, c8, -⟩ := q1.cells
  simp only at c0 c1 c2 c3 c4 c5 c6 c7 c8
  have q1c2 := c2
  have q1c3 := c3
  go_wp2_with fail
  go_at_call 68
  refine (hT w1).mono ?_
  rintro _ wz ⟨rfl, hwz⟩
  obtain rfl := hwz.symm
  try dsimp only
  go_wp2_with fail
  go_at_call 24
  refine (rs_begin 168 w1 S1 p st 2 8 d0 (by omega) rfl rfl (by omega)).mono ?_
  rintro _ w2 ⟨rfl, t2⟩
  try dsimp only
  have d2 := t2
  clear t2
  generalize openY 168 (st, 0) = y2 at d2 hZ ⊢
  obtain ⟨s2, e2⟩ := y2
  have d2 : Hid (DTo w1 S1 p (s2, e2) w2) := d2
  by_cases hz : e2 = 0
  case neg =>
    have h2 : (s2, e2).2 ≠ 0 := hz
    have hE : Hid (Z = (s2, e2)) := by show _ = _; rw [hZ.out]; simp only [textY_no h2, closeY_no h2]
    have hz' : ¬ (e2 : Int) = 0 := by have : ¬ e2 = 0 := hz; omega
    clear hz h2 hZ
    go_wp2
    go_ret
    rw [hE.out]
    exact ⟨rfl, hD.out _ _ d2.out⟩
  case pos =>
  subst hz
  have c2 := d2.out.2.cell q1c2 (fun k => nb.out _ k rfl)
  have c3 := d2.out.2.cell q1c3 (fun k => nb.out _ k rfl)
  go_wp2_with fail
  go_at_call 26
  refine (rs_text 4 w2 _ p s2 0 4 desc d2.out.1 rfl rfl hd).mono ?_
  rintro _ w3 ⟨rfl, t3⟩
  try dsimp only
  have d3 := d2.out.then t3
  clear t3
  generalize textY 4 (byt desc) (s2, 0) = y3 at d3 hZ ⊢
  obtain ⟨s3, e3⟩ := y3
  have d3 : Hid (DTo w1 S1 p (s3, e3) w3) := d3
  by_cases hz : e3 = 0
  case neg =>
    have h3 : (s3, e3).2 ≠ 0 := hz
    have hE : Hid (Z = (s3, e3)) := by show _ = _; rw [hZ.out]; simp only [textY_no h3, closeY_no h3]
    have hz' : ¬ (e3 : Int) = 0 := by have : ¬ e3 = 0 := hz; omega
    clear hz h3 hZ
    go_wp2
    go_ret
    rw [hE.out]
    exact ⟨rfl, hD.out _ _ d3.out⟩
  case pos =>
  subst hz
  have c3 := d3.out.2.cell q1c3 (fun k => nb.out _ k rfl)
  go_wp2_with fail
  go_at_call 26
  refine (rs_text 4 w3 _ p s3 0 4 value d3.out.1 rfl rfl hv).mono ?_
  rintro _ w4 ⟨rfl, t4⟩
  try dsimp only
  have d4 := d3.out.then t4
  clear t4
  generalize textY 4 (byt value) (s3, 0) = y4 at d4 hZ ⊢
  obtain ⟨s4, e4⟩ := y4
  have d4 : Hid (DTo w1 S1 p (s4, e4) w4) := d4
  by_cases hz : e4 = 0
  case neg =>
    have h4 : (s4, e4).2 ≠ 0 := hz
    have hE : Hid (Z = (s4, e4)) := by show _ = _; rw [hZ.out]; simp only [closeY_no h4]
    have hz' : ¬ (e4 : Int) = 0 := by have : ¬ e4 = 0 := hz; omega
    clear hz h4 hZ
    go_wp2
    go_ret
    rw [hE.out]
    exact ⟨rfl, hD.out _ _ d4.out⟩
  case pos =>
  subst hz
  go_wp2_with fail
  go_at_call 31
  refine (rs_end w4 _ p s4 d4.out.1).mono ?_
  rintro _ w5 ⟨rfl, t5⟩
  try dsimp only
  have d5 := d4.out.then t5
  clear t5
  generalize closeY (s4, 0) = y5 at d5 hZ ⊢
  obtain ⟨s5, e5⟩ := y5
  have d5 : Hid (DTo w1 S1 p (s5, e5) w5) := d5
  go_wp2
  go_ret
  rw [hZ.out]
  exact ⟨rfl, hD.out _ _ d5.out⟩
set_option maxRecDepth 100000 in
set_option maxHeartbeats 8000000 in
theorem dl_9 (w : World) (S : Nat → Prop) (p : Value) (st : Wr) (ka : Option Addr) (kn kc : Nat) (desc value start : ByteArray) (ma : Option Addr) (mn mc : Nat) (fin rule : ByteArray) (dn : Bool) (h : RfS w S p st) (hd : desc.size ≤ 65536) (hv : value.size ≤ 65536) (hr : rule.size ≤ 65536) :
    Calls Tryz.prog 50 #[p, .agg #[.int .i8 9, .slice ka kn kc, .string desc, .string value, .string start, .slice ma mn mc, .string fin, .string rule, .bool dn]] w fun e w' => e = .returned (.int .i64 (closeY (if dn then textY 132 [255] (textY 131 (byt value) (someY 130 (byt desc) (someY 129 (byt rule) (openY 169 (st, 0))))) else textY 131 (byt value) (someY 130 (byt desc) (someY 129 (byt rule) (openY 169 (st, 0)))))).2) ∧ DTo w S p (closeY (if dn then textY 132 [255] (textY 131 (byt value) (someY 130 (byt desc) (someY 129 (byt rule) (openY 169 (st, 0))))) else textY 131 (byt value) (someY 130 (byt desc) (someY 129 (byt rule) (openY 169 (st, 0)))))) w' := by
  have q1 : FlT (w.alloc (.cells #[.int .i8 9, .slice ka kn kc, .string desc, .string value, .string start, .slice ma mn mc, .string fin, .string rule, .bool dn] 27)) w.heap.size ⟨9, ka, kn, kc, desc, value, start, ma, mn, mc, fin, rule, dn⟩ := heap_alloc_new _ _
  have x1 := (Ext.refl w).alloc (.cells #[.int .i8 9, .slice ka kn kc, .string desc, .string value, .string start, .slice ma mn mc, .string fin, .string rule, .bool dn] 27)
  obtain ⟨Z, hZ⟩ : ∃ Z, Hid (Z = closeY (if dn then textY 132 [255] (textY 131 (byt value) (someY 130 (byt desc) (someY 129 (byt rule) (openY 169 (st, 0))))) else textY 131 (byt value) (someY 130 (byt desc) (someY 129 (byt rule) (openY 169 (st, 0)))))) := ⟨_, rfl⟩
  rw [← hZ.out]
  obtain ⟨S1, hS1⟩ : ∃ S1 : Nat → Prop, S1 = fun g => S g ∧ g < w.heap.size := ⟨_, rfl⟩
  have nb : Hid (∀ g, S1 g → g ≠ w.heap.size) := fun g k => by rw [hS1] at k; have := k.2; omega
  have hD : Hid (∀ W, Ext w W → ∀ y w2, DTo W S1 p y w2 → DTo w S p y w2) := fun W e y w2 k => by rw [hS1] at k; exact DTo.from e k
  have d0 : RfS (w.alloc (.cells #[.int .i8 9, .slice ka kn kc, .string desc, .string value, .string start, .slice ma mn mc, .string fin, .string rule, .bool dn] 27)) S1 p st := by rw [hS1]; exact h.tight.ext x1
  clear hS1 h
  go_enter Tryz.func50, Tryz.ntmps50
  go_upto_region 1 with fail
  generalize World.alloc w _ = w1 at q1 x1 d0 ⊢
  have hD : Hid (∀ y w2, DTo w1 S1 p y w2 → DTo w S p y w2) := hD.out w1 x1
  generalize w.heap.size = HS at q1 nb ⊢
  obtain ⟨c0, c1, c2, c3, c4, c5, c6, c7, c8, -⟩ := q1.cells
  simp only at c0 c1 c2 c3 c4 c5 c6 c7 c8
  have q1c2 := c2
  have q1c3 := c3
  have q1c7 := c7
  have q1c8 := c8
  go_wp2_with fail
  go_at_call 24
  refine (rs_begin 169 w1 S1 p st 2 9 d0 (by omega) rfl rfl (by omega)).mono ?_
  rintro _ w2 ⟨rfl, t2⟩
  try dsimp only
  have d2 := t2
  clear t2
  generalize openY 169 (st, 0) = y2 at d2 hZ ⊢
  obtain ⟨s2, e2⟩ := y2
  have d2 : Hid (DTo w1 S1 p (s2, e2) w2) := d2
  by_cases hz : e2 = 0
  case neg =>
    have h2 : (s2, e2).2 ≠ 0 := hz
    have hE : Hid (Z = (s2, e2)) := by show _ = _; rw [hZ.out]; simp only [someY_no h2, textY_no h2, closeY_no h2, ite_self]
    have hz' : ¬ (e2 : Int) = 0 := by have : ¬ e2 = 0 := hz; omega
    clear hz h2 hZ
    go_wp2
    go_ret
    rw [hE.out]
    exact ⟨rfl, hD.out _ _ d2.out⟩
  case pos =>
  subst hz
  have c7 := d2.out.2.cell q1c7 (fun k => nb.out _ k rfl)
  go_upto_if 123 with fail
  go_cut [9] from 117 to 127 (fun u wx => u = .int .i64 (someY 129 (byt rule) (s2, 0)).2 ∧ DTo w1 S1 p (someY 129 (byt rule) (s2, 0)) wx)
  case first =>
    clear hZ
    by_cases hz : rule.size = 0
    · have hY : Hid (someY 129 (byt rule) (s2, 0) = (s2, 0)) := if_pos ((byt_nil rule).mpr hz)
      have hz' : (rule.toList == []) = true := by rw [txt_nil']; simpa using hz
      rw [show (!rule.toList.isEmpty) = false from by simpa using hz']
      clear hz'
      go_wp2
      go_meet
      rw [hY.out]
      exact ⟨rfl, d2.out⟩
    · have hY : Hid (someY 129 (byt rule) (s2, 0) = textY 129 (byt rule) (s2, 0)) := if_neg (fun e => hz ((byt_nil rule).mp e))
      have hz' : (rule.toList == []) = false := by rw [txt_nil']; simpa using hz
      rw [show (!rule.toList.isEmpty) = true from by simpa using hz']
      clear hz'
      clear hz
      go_wp2_with fail
      go_at_call 26
      refine (rs_text 129 w2 _ p s2 2 1 rule d2.out.1 rfl rfl (by omega)).mono ?_
      rintro _ w9 ⟨rfl, t9⟩
      try dsimp only
      have d9 : Hid (DTo w1 S1 p (textY 129 (byt rule) (s2, 0)) w9) := d2.out.then t9
      clear t9
      go_wp2
      go_meet
      rw [hY.out]
      exact ⟨rfl, d9.out⟩
  case rest =>
  obtain ⟨rfl, d3⟩ := hcut
  generalize wc = w3 at d3 ⊢
  generalize someY 129 (byt rule) (s2, 0) = y3 at d3 hZ ⊢
  obtain ⟨s3, e3⟩ := y3
  have d3 : Hid (DTo w1 S1 p (s3, e3) w3) := d3
  by_cases hz : e3 = 0
  case neg =>
    have h3 : (s3, e3).2 ≠ 0 := hz
    have hE : Hid (Z = (s3, e3)) := by show _ = _; rw [hZ.out]; simp only [someY_no h3, textY_no h3, closeY_no h3, ite_self]
    have hz' : ¬ (e3 : Int) = 0 := by have : ¬ e3 = 0 := hz; omega
    clear hz h3 hZ
    go_wp2
    go_ret
    rw [hE.out]
    exact ⟨rfl, hD.out _ _ d3.out⟩
  case pos =>
  subst hz
  have c2 := d3.out.2.cell q1c2 (fun k => nb.out _ k rfl)
  go_upto_if 134 with fail
  go_cut [9] from 128 to 138 (fun u wx => u = .int .i64 (someY 130 (byt desc) (s3, 0)).2 ∧ DTo w1 S1 p (someY 130 (byt desc) (s3, 0)) wx)
  case first =>
    clear hZ
    by_cases hz : desc.size = 0
    · have hY : Hid (someY 130 (byt desc) (s3, 0) = (s3, 0)) := if_pos ((byt_nil desc).mpr hz)
      have hz' : (desc.toList == []) = true := by rw [txt_nil']; simpa using hz
      rw [show (!desc.toList.isEmpty) = false from by simpa using hz']
      clear hz'
      go_wp2
      go_meet
      rw [hY.out]
      exact ⟨rfl, d3.out⟩
    · have hY : Hid (someY 130 (byt desc) (s3, 0) = textY 130 (byt desc) (s3, 0)) := if_neg (fun e => hz ((byt_nil desc).mp e))
      have hz' : (desc.toList == []) = false := by rw [txt_nil']; simpa using hz
      rw [show (!desc.toList.isEmpty) = true from by simpa using hz']
      clear hz'
      clear hz
      go_wp2_with fail
      go_at_call 26
      refine (rs_text 130 w3 _ p s3 2 2 desc d3.out.1 rfl rfl (by omega)).mono ?_
      rintro _ w9 ⟨rfl, t9⟩
      try dsimp only
      have d9 : Hid (DTo w1 S1 p (textY 130 (byt desc) (s3, 0)) w9) := d3.out.then t9
      clear t9
      go_wp2
      go_meet
      rw [hY.out]
      exact ⟨rfl, d9.out⟩
  case rest =>
  obtain ⟨rfl, d4⟩ := hcut
  generalize wc = w4 at d4 ⊢
  generalize someY 130 (byt desc) (s3, 0) = y4 at d4 hZ ⊢
  obtain ⟨s4, e4⟩ := y4
  have d4 : Hid (DTo w1 S1 p (s4, e4) w4) := d4
  by_cases hz : e4 = 0
  case neg =>
    have h4 : (s4, e4).2 ≠ 0 := hz
    have hE : Hid (Z = (s4, e4)) := by show _ = _; rw [hZ.out]; simp only [textY_no h4, closeY_no h4, ite_self]
    have hz' : ¬ (e4 : Int) = 0 := by have : ¬ e4 = 0 := hz; omega
    clear hz h4 hZ
    go_wp2
    go_ret
    rw [hE.out]
    exact ⟨rfl, hD.out _ _ d4.out⟩
  case pos =>
  subst hz
  have c3 := d4.out.2.cell q1c3 (fun k => nb.out _ k rfl)
  go_wp2_with fail
  go_at_call 26
  refine (rs_text 131 w4 _ p s4 2 3 value d4.out.1 rfl rfl hv).mono ?_
  rintro _ w5 ⟨rfl, t5⟩
  try dsimp only
  have d5 := d4.out.then t5
  clear t5
  generalize textY 131 (byt value) (s4, 0) = y5 at d5 hZ ⊢
  obtain ⟨s5, e5⟩ := y5
  have d5 : Hid (DTo w1 S1 p (s5, e5) w5) := d5
  by_cases hz : e5 = 0
  case neg =>
    have h5 : (s5, e5).2 ≠ 0 := hz
    have hE : Hid (Z = (s5, e5)) := by show _ = _; rw [hZ.out]; simp only [textY_no h5, closeY_no h5, ite_self]
    have hz' : ¬ (e5 : Int) = 0 := by have : ¬ e5 = 0 := hz; omega
    clear hz h5 hZ
    go_wp2
    go_ret
    rw [hE.out]
    exact ⟨rfl, hD.out _ _ d5.out⟩
  case pos =>
  subst hz
  have c8 := d5.out.2.cell q1c8 (fun k => nb.out _ k rfl)
  cases dn with
  | false =>
    simp only [Bool.false_eq_true, if_false] at hZ
    go_wp2_with fail
    go_at_call 31
    refine (rs_end w5 _ p s5 d5.out.1).mono ?_
    rintro _ w6 ⟨rfl, t6⟩
    try dsimp only
    have d6 := d5.out.then t6
    clear t6
    generalize closeY (s5, 0) = y6 at d6 hZ ⊢
    obtain ⟨s6, e6⟩ := y6
    have d6 : Hid (DTo w1 S1 p (s6, e6) w6) := d6
    go_wp2
    go_ret
    rw [hZ.out]
    exact ⟨rfl, hD.out _ _ d6.out⟩
  | true =>
    simp only [if_true] at hZ
    go_wp2_with fail
    go_at_call 78
    refine (rs_flag 132 w5 _ p s5 2 4 d5.out.1 rfl rfl).mono ?_
    rintro _ w6 ⟨rfl, t6⟩
    try dsimp only
    have d6 := d5.out.then t6
    clear t6
    generalize textY 132 [255] (s5, 0) = y6 at d6 hZ ⊢
    obtain ⟨s6, e6⟩ := y6
    have d6 : Hid (DTo w1 S1 p (s6, e6) w6) := d6
    by_cases hz : e6 = 0
    case neg =>
      have h6 : (s6, e6).2 ≠ 0 := hz
      have hE : Hid (Z = (s6, e6)) := by show _ = _; rw [hZ.out]; simp only [closeY_no h6]
      have hz' : ¬ (e6 : Int) = 0 := by have : ¬ e6 = 0 := hz; omega
      clear hz h6 hZ
      go_wp2
      go_ret
      rw [hE.out]
      exact ⟨rfl, hD.out _ _ d6.out⟩
    case pos =>
    subst hz
    go_wp2_with fail
    go_at_call 31
    refine (rs_end w6 _ p s6 d6.out.1).mono ?_
    rintro _ w7 ⟨rfl, t7⟩
    try dsimp only
    have d7 := d6.out.then t7
    clear t7
    generalize closeY (s6, 0) = y7 at d7 hZ ⊢
    obtain ⟨s7, e7⟩ := y7
    have d7 : Hid (DTo w1 S1 p (s7, e7) w7) := d7
    go_wp2
    go_ret
    rw [hZ.out]
    exact ⟨rfl, hD.out _ _ d7.out⟩
end Go.Proofs.YtdcfiphffbgocaaGreatDoor

/-
  The document's Lay: kids (written by gen/mkpl.py).
-/
namespace Go.Proofs.YtdcfiphffbgocaaGreatDoor
open Go.RowKit Go.Shelf

/-- the document's Lay lays one filter -/
def DSpec (a : OwnF) (kids : FT) : Prop := ∀ (w : World) (S : Nat → Prop) (L : Nat) (p : Value) (st : Wr) (f : F9), RfS w S p st → FStay w S L f a kids → OkO a → OkF kids →
  Calls Tryz.prog 50 #[p, .agg f.arr] w fun e w' => e = .returned (.int .i64 (oneY a (kidsY kids) (st, 0)).2) ∧ DTo w S p (oneY a (kidsY kids) (st, 0)) w'
def DAll : FT → Prop
  | .nil => True
  | .cons a k r => DSpec a k ∧ DAll r
set_option maxRecDepth 100000 in
set_option maxHeartbeats 8000000 in
theorem dl_0 (w : World) (S : Nat → Prop) (p : Value) (st : Wr) (ka : Option Addr) (kn kc : Nat) (desc value start : ByteArray) (ma : Option Addr) (mn mc : Nat) (fin rule : ByteArray) (dn : Bool) (h : RfS w S p st) (L : Nat) (k : FT) (hkn : kn = k.len) (hcm : kn ≤ maxLen) (hk : k.len = 0 ∨ ∃ g o, ka = some ⟨g, o, none⟩ ∧ KStay w S L k g o) (hall : DAll k) (hok : OkF k) :
    Calls Tryz.prog 50 #[p, .agg #[.int .i8 0, .slice ka kn kc, .string desc, .string value, .string start, .slice ma mn mc, .string fin, .string rule, .bool dn]] w fun e w' => e = .returned (.int .i64 (aroundY 160 (kidsY k) (st, 0)).2) ∧ DTo w S p (aroundY 160 (kidsY k) (st, 0)) w' := by
  have q1 : FlT (w.alloc (.cells #[.int .i8 0, .slice ka kn kc, .string desc, .string value, .string start, .slice ma mn mc, .string fin, .string rule, .bool dn] 27)) w.heap.size ⟨0, ka, kn, kc, desc, value, start, ma, mn, mc, fin, rule, dn⟩ := heap_alloc_new _ _
  have x1 := (Ext.refl w).alloc (.cells #[.int .i8 0, .slice ka kn kc, .string desc, .string value, .string start, .slice ma mn mc, .string fin, .string rule, .bool dn] 27)
  obtain ⟨Z, hZ⟩ : ∃ Z, Hid (Z = closeY (kidsY k (openY 160 (st, 0)))) := ⟨_, rfl⟩
  rw [show aroundY 160 (kidsY k) (st, 0) = Z from hZ.out.symm]
  obtain ⟨S1, hS1⟩ : ∃ S1 : Nat → Prop, S1 = fun g => S g ∧ g < w.heap.size := ⟨_, rfl⟩
  have nb : Hid (∀ g, S1 g → g ≠ w.heap.size) := fun g k => by rw [hS1] at k; have := k.2; omega
  have hD : Hid (∀ W, Ext w W → ∀ y w2, DTo W S1 p y w2 → DTo w S p y w2) := fun W e y w2 k => by rw [hS1] at k; exact DTo.from e k
  have hkm : kn ≤ 9223372036854775807 := by unfold maxLen at hcm; omega
  have hknh : Hid (kn = k.len) := hkn
  have hallh : Hid (DAll k ∧ OkF k) := ⟨hall, hok⟩
  have hkh : Hid (k.len = 0 ∨ ∃ g o, ka = some ⟨g, o, none⟩ ∧ KStay (w.alloc (.cells #[.int .i8 0, .slice ka kn kc, .string desc, .string value, .string start, .slice ma mn mc, .string fin, .string rule, .bool dn] 27)) S1 L k g o) := hk.imp id (fun ⟨g, o, e, j⟩ => ⟨g, o, e, j.next x1.only (fun g _ hs => by rw [hS1] at hs; exact hs.1)⟩)
  clear hkn hcm hk hall hok
  have d0 : RfS (w.alloc (.cells #[.int .i8 0, .slice ka kn kc, .string desc, .string value, .string start, .slice ma mn mc, .string fin, .string rule, .bool dn] 27)) S1 p st := by rw [hS1]; exact h.tight.ext x1
  clear hS1 h
  go_enter Tryz.func50, Tryz.ntmps50
  go_upto_region 1 with fail
  generalize World.alloc w _ = w1 at q1 x1 d0 hkh ⊢
  have hD : Hid (∀ y w2, DTo w1 S1 p y w2 → DTo w S p y w2) := hD.out w1 x1
  generalize w.heap.size = HS at q1 nb ⊢
  obtain ⟨c0, c1, c2, c3, c4, c5, c6, c7, c8, -⟩ := q1.cells
  simp only at c0 c1 c2 c3 c4 c5 c6 c7 c8
  have q1c1 := c1
  go_wp2_with fail
  go_at_call 24
  refine (rs_begin 160 w1 S1 p st 2 0 d0 (by omega) rfl rfl (by omega)).mono ?_
  rintro _ w2 ⟨rfl, t2⟩
  try dsimp only
  have d2 := t2
  clear t2
  generalize openY 160 (st, 0) = y2 at d2 hZ ⊢
  obtain ⟨s2, e2⟩ := y2
  have d2 : Hid (DTo w1 S1 p (s2, e2) w2) := d2
  clear c0 c1 c2 c3 c4 c5 c6 c7 c8 d0
  go_wp2_with fail
  go_loopw [5, 6] (fun v5 v6 wr => ∃ (j : Nat) (r : FT) (s : Wr) (e : Nat), v5 = .int .i64 e ∧ v6 = .int .i64 j ∧ j ≤ kn ∧ Hid (j + r.len = kn) ∧ Hid (DAll r ∧ OkF r) ∧ Hid (r.len = 0 ∨ ∃ g o, ka = some ⟨g, o, none⟩ ∧ KStay w1 S1 L r g (o + 9 * j)) ∧ Hid (Z = closeY (kidsY r (s, e))) ∧ Hid (DTo w1 S1 p (s, e) wr)) (fun _ v6 _ => kn - (intOf v6).toNat)
  case atStart => exact ⟨0, k, s2, e2, rfl, rfl, Nat.zero_le _, by show _ = _; have := hknh.out; omega, hallh, hkh, hZ, d2⟩
  case round =>
    clear hallh hkh hknh hZ d2
    obtain ⟨j, r, s, e, rfl, rfl, hj, hjr, hA, hK, hZ, d⟩ := hrel
    have c1 := d.out.2.cell q1c1 (fun k => nb.out _ k rfl)
    by_cases hlt : j < kn
    · have hlt' : (j : Int) < (kn : Int) := by omega
      by_cases hz : e = 0
      · subst hz
        obtain ⟨b3, k3, r3, rfl⟩ : ∃ a kids rest, r = .cons a kids rest := FT.pos (by have := hjr.out; omega)
        obtain ⟨g3, o3, rfl, hce⟩ : ∃ g o, ka = some ⟨g, o, none⟩ ∧ KStay w1 S1 L (.cons b3 k3 r3) g (o + 9 * j) := by
          rcases hK.out with h | h
          · simp [FT.len] at h
          · exact h
        obtain ⟨f3, v3, u3, t3⟩ := hce.here
        have u3 := u3 _ (d.out.2.mono fun g _ hg => .inl hg)
        have hcall := hA.out.1.1 _ _ L p s f3 d.out.1 (v3.next (d.out.2.mono fun g _ hg => .inl hg) (fun g hg hs => up_low g hg hs)) hA.out.2.1 hA.out.2.2.1
        obtain ⟨kind3, ka3, kn3, kc3, desc3, value3, start3, ma3, mn3, mc3, fin3, rule3, dn3⟩ := f3
        have e30 := u3 0 (by simp [F9.arr])
        have e31 := u3 1 (by simp [F9.arr])
        have e32 := u3 2 (by simp [F9.arr])
        have e33 := u3 3 (by simp [F9.arr])
        have e34 := u3 4 (by simp [F9.arr])
        have e35 := u3 5 (by simp [F9.arr])
        have e36 := u3 6 (by simp [F9.arr])
        have e37 := u3 7 (by simp [F9.arr])
        have e38 := u3 8 (by simp [F9.arr])
        simp only [F9.arr, List.getElem_toArray, List.getElem_cons_zero, List.getElem_cons_succ, Nat.add_zero] at e30 e31 e32 e33 e34 e35 e36 e37 e38
        rw [show o3 + 9 * j = o3 + j * 9 by omega] at e30 e31 e32 e33 e34 e35 e36 e37 e38
        simp only [F9.arr] at hcall
        have t3h : Hid (KStay w1 S1 L r3 g3 (o3 + 9 * j + 9)) := t3
        have hA2 : Hid (DAll r3 ∧ OkF r3) := ⟨hA.out.1.2, hA.out.2.2.2⟩
        have hjr2 : Hid (j + 1 + r3.len = kn) := by show _ = _; have := hjr.out; simp only [FT.len] at this; omega
        have hZ2 : Hid (Z = closeY (kidsY r3 (oneY b3 (kidsY k3) (s, 0)))) := hZ.out
        clear hce t3 u3 v3 hA hK hZ hjr
        generalize oneY b3 (kidsY k3) (s, 0) = z at hcall hZ2
        obtain ⟨s', e'⟩ := z
        go_wp2_with fail
        go_at_call 50
        refine hcall.mono ?_
        rintro _ w4 ⟨rfl, t4⟩
        have d4 : Hid (DTo w1 S1 p (s', e') w4) := d.out.then t4
        clear e30 e31 e32 e33 e34 e35 e36 e37 e38 hcall t4 d c1
        try dsimp only
        go_wp2
        go_roundw
        case rel => exact ⟨j + 1, r3, s', e', rfl, by go_num, by omega, hjr2, hA2, .inr ⟨g3, o3, rfl, by rw [show o3 + 9 * (j + 1) = o3 + 9 * j + 9 by omega]; exact t3h.out⟩, hZ2, d4⟩
        case measure => simp [intOf]; omega
      · have hz' : ¬ (e : Int) = 0 := by omega
        have hE : Hid (Z = (s, e)) := by show _ = _; rw [hZ.out, kidsY_no r (x := (s, e)) hz, closeY_no (x := (s, e)) hz]
        clear hA hK hZ hjr hz
        go_wp2
        go_ret
        rw [hE.out]
        exact ⟨rfl, hD.out _ _ d.out⟩
    · have hlt' : ¬ (j : Int) < (kn : Int) := by omega
      have hE : Hid (Z = closeY (s, e)) := by
        show _ = _
        rw [hZ.out]
        cases r with
        | nil => rfl
        | cons _ _ _ => have := hjr.out; simp only [FT.len] at this; omega
      clear hA hK hZ hjr
      by_cases hz : e = 0
      · subst hz
        go_wp2_with fail
        go_at_call 31
        refine (rs_end wr _ p s d.out.1).mono ?_
        rintro _ w5 ⟨rfl, t5⟩
        try dsimp only
        have d5 : Hid (DTo w1 S1 p (closeY (s, 0)) w5) := d.out.then t5
        clear t5
        go_wp2
        go_ret
        rw [hE.out]
        exact ⟨rfl, hD.out _ _ d5.out⟩
      · have hz' : ¬ (e : Int) = 0 := by omega
        have hE2 : Hid (Z = (s, e)) := by show _ = _; rw [hE.out, closeY_no (x := (s, e)) hz]
        clear hE hz
        go_wp2
        go_ret
        rw [hE2.out]
        exact ⟨rfl, hD.out _ _ d.out⟩
set_option maxRecDepth 100000 in
set_option maxHeartbeats 8000000 in
theorem dl_1 (w : World) (S : Nat → Prop) (p : Value) (st : Wr) (ka : Option Addr) (kn kc : Nat) (desc value start : ByteArray) (ma : Option Addr) (mn mc : Nat) (fin rule : ByteArray) (dn : Bool) (h : RfS w S p st) (L : Nat) (k : FT) (hkn : kn = k.len) (hcm : kn ≤ maxLen) (hk : k.len = 0 ∨ ∃ g o, ka = some ⟨g, o, none⟩ ∧ KStay w S L k g o) (hall : DAll k) (hok : OkF k) :
    Calls Tryz.prog 50 #[p, .agg #[.int .i8 1, .slice ka kn kc, .string desc, .string value, .string start, .slice ma mn mc, .string fin, .string rule, .bool dn]] w fun e w' => e = .returned (.int .i64 (aroundY 161 (kidsY k) (st, 0)).2) ∧ DTo w S p (aroundY 161 (kidsY k) (st, 0)) w' := by
  have q1 : FlT (w.alloc (.cells #[.int .i8 1, .slice ka kn kc, .string desc, .string value, .string start, .slice ma mn mc, .string fin, .string rule, .bool dn] 27)) w.heap.size ⟨1, ka, kn, kc, desc, value, start, ma, mn, mc, fin, rule, dn⟩ := heap_alloc_new _ _
  have x1 := (Ext.refl w).alloc (.cells #[.int .i8 1, .slice ka kn kc, .string desc, .string value, .string start, .slice ma mn mc, .string fin, .string rule, .bool dn] 27)
  obtain ⟨Z, hZ⟩ : ∃ Z, Hid (Z = closeY (kidsY k (openY 161 (st, 0)))) := ⟨_, rfl⟩
  rw [show aroundY 161 (kidsY k) (st, 0) = Z from hZ.out.symm]
  obtain ⟨S1, hS1⟩ : ∃ S1 : Nat → Prop, S1 = fun g => S g ∧ g < w.heap.size := ⟨_, rfl⟩
  have nb : Hid (∀ g, S1 g → g ≠ w.heap.size) := fun g k => by rw [hS1] at k; have := k.2; omega
  have hD : Hid (∀ W, Ext w W → ∀ y w2, DTo W S1 p y w2 → DTo w S p y w2) := fun W e y w2 k => by rw [hS1] at k; exact DTo.from e k
  have hkm : kn ≤ 9223372036854775807 := by unfold maxLen at hcm; omega
  have hknh : Hid (kn = k.len) := hkn
  have hallh : Hid (DAll k ∧ OkF k) := ⟨hall, hok⟩
  have hkh : Hid (k.len = 0 ∨ ∃ g o, ka = some ⟨g, o, none⟩ ∧ KStay (w.alloc (.cells #[.int .i8 1, .slice ka kn kc, .string desc, .string value, .string start, .slice ma mn mc, .string fin, .string rule, .bool dn] 27)) S1 L k g o) := hk.imp id (fun ⟨g, o, e, j⟩ => ⟨g, o, e, j.next x1.only (fun g _ hs => by rw [hS1] at hs; exact hs.1)⟩)
  clear hkn hcm hk hall hok
  have d0 : RfS (w.alloc (.cells #[.int .i8 1, .slice ka kn kc, .string desc, .string value, .string start, .slice ma mn mc, .string fin, .string rule, .bool dn] 27)) S1 p st := by rw [hS1]; exact h.tight.ext x1
  clear hS1 h
  go_enter Tryz.func50, Tryz.ntmps50
  go_upto_region 1 with fail
  generalize World.alloc w _ = w1 at q1 x1 d0 hkh ⊢
  have hD : Hid (∀ y w2, DTo w1 S1 p y w2 → DTo w S p y w2) := hD.out w1 x1
  generalize w.heap.size = HS at q1 nb ⊢
  obtain ⟨c0, c1, c2, c3, c4, c5, c6, c7, c8, -⟩ := q1.cells
  simp only at c0 c1 c2 c3 c4 c5 c6 c7 c8
  have q1c1 := c1
  go_wp2_with fail
  go_at_call 24
  refine (rs_begin 161 w1 S1 p st 2 1 d0 (by omega) rfl rfl (by omega)).mono ?_
  rintro _ w2 ⟨rfl, t2⟩
  try dsimp only
  have d2 := t2
  clear t2
  generalize openY 161 (st, 0) = y2 at d2 hZ ⊢
  obtain ⟨s2, e2⟩ := y2
  have d2 : Hid (DTo w1 S1 p (s2, e2) w2) := d2
  clear c0 c1 c2 c3 c4 c5 c6 c7 c8 d0
  go_wp2_with fail
  go_loopw [5, 6] (fun v5 v6 wr => ∃ (j : Nat) (r : FT) (s : Wr) (e : Nat), v5 = .int .i64 e ∧ v6 = .int .i64 j ∧ j ≤ kn ∧ Hid (j + r.len = kn) ∧ Hid (DAll r ∧ OkF r) ∧ Hid (r.len = 0 ∨ ∃ g o, ka = some ⟨g, o, none⟩ ∧ KStay w1 S1 L r g (o + 9 * j)) ∧ Hid (Z = closeY (kidsY r (s, e))) ∧ Hid (DTo w1 S1 p (s, e) wr)) (fun _ v6 _ => kn - (intOf v6).toNat)
  case atStart => exact ⟨0, k, s2, e2, rfl, rfl, Nat.zero_le _, by show _ = _; have := hknh.out; omega, hallh, hkh, hZ, d2⟩
  case round =>
    clear hallh hkh hknh hZ d2
    obtain ⟨j, r, s, e, rfl, rfl, hj, hjr, hA, hK, hZ, d⟩ := hrel
    have c1 := d.out.2.cell q1c1 (fun k => nb.out _ k rfl)
    by_cases hlt : j < kn
    · have hlt' : (j : Int) < (kn : Int) := by omega
      by_cases hz : e = 0
      · subst hz
        obtain ⟨b3, k3, r3, rfl⟩ : ∃ a kids rest, r = .cons a kids rest := FT.pos (by have := hjr.out; omega)
        obtain ⟨g3, o3, rfl, hce⟩ : ∃ g o, ka = some ⟨g, o, none⟩ ∧ KStay w1 S1 L (.cons b3 k3 r3) g (o + 9 * j) := by
          rcases hK.out with h | h
          · simp [FT.len] at h
          · exact h
        obtain ⟨f3, v3, u3, t3⟩ := hce.here
        have u3 := u3 _ (d.out.2.mono fun g _ hg => .inl hg)
        have hcall := hA.out.1.1 _ _ L p s f3 d.out.1 (v3.next (d.out.2.mono fun g _ hg => .inl hg) (fun g hg hs => up_low g hg hs)) hA.out.2.1 hA.out.2.2.1
        obtain ⟨kind3, ka3, kn3, kc3, desc3, value3, start3, ma3, mn3, mc3, fin3, rule3, dn3⟩ := f3
        have e30 := u3 0 (by simp [F9.arr])
        have e31 := u3 1 (by simp [F9.arr])
        have e32 := u3 2 (by simp [F9.arr])
        have e33 := u3 3 (by simp [F9.arr])
        have e34 := u3 4 (by simp [F9.arr])
        have e35 := u3 5 (by simp [F9.arr])
        have e36 := u3 6 (by simp [F9.arr])
        have e37 := u3 7 (by simp [F9.arr])
        have e38 := u3 8 (by simp [F9.arr])
        simp only [F9.arr, List.getElem_toArray, List.getElem_cons_zero, List.getElem_cons_succ, Nat.add_zero] at e30 e31 e32 e33 e34 e35 e36 e37 e38
        rw [show o3 + 9 * j = o3 + j * 9 by omega] at e30 e31 e32 e33 e34 e35 e36 e37 e38
        simp only [F9.arr] at hcall
        have t3h : Hid (KStay w1 S1 L r3 g3 (o3 + 9 * j + 9)) := t3
        have hA2 : Hid (DAll r3 ∧ OkF r3) := ⟨hA.out.1.2, hA.out.2.2.2⟩
        have hjr2 : Hid (j + 1 + r3.len = kn) := by show _ = _; have := hjr.out; simp only [FT.len] at this; omega
        have hZ2 : Hid (Z = closeY (kidsY r3 (oneY b3 (kidsY k3) (s, 0)))) := hZ.out
        clear hce t3 u3 v3 hA hK hZ hjr
        generalize oneY b3 (kidsY k3) (s, 0) = z at hcall hZ2
        obtain ⟨s', e'⟩ := z
        go_wp2_with fail
        go_at_call 50
        refine hcall.mono ?_
        rintro _ w4 ⟨rfl, t4⟩
        have d4 : Hid (DTo w1 S1 p (s', e') w4) := d.out.then t4
        clear e30 e31 e32 e33 e34 e35 e36 e37 e38 hcall t4 d c1
        try dsimp only
        go_wp2
        go_roundw
        case rel => exact ⟨j + 1, r3, s', e', rfl, by go_num, by omega, hjr2, hA2, .inr ⟨g3, o3, rfl, by rw [show o3 + 9 * (j + 1) = o3 + 9 * j + 9 by omega]; exact t3h.out⟩, hZ2, d4⟩
        case measure => simp [intOf]; omega
      · have hz' : ¬ (e : Int) = 0 := by omega
        have hE : Hid (Z = (s, e)) := by show _ = _; rw [hZ.out, kidsY_no r (x := (s, e)) hz, closeY_no (x := (s, e)) hz]
        clear hA hK hZ hjr hz
        go_wp2
        go_ret
        rw [hE.out]
        exact ⟨rfl, hD.out _ _ d.out⟩
    · have hlt' : ¬ (j : Int) < (kn : Int) := by omega
      have hE : Hid (Z = closeY (s, e)) := by
        show _ = _
        rw [hZ.out]
        cases r with
        | nil => rfl
        | cons _ _ _ => have := hjr.out; simp only [FT.len] at this; omega
      clear hA hK hZ hjr
      by_cases hz : e = 0
      · subst hz
        go_wp2_with fail
        go_at_call 31
        refine (rs_end wr _ p s d.out.1).mono ?_
        rintro _ w5 ⟨rfl, t5⟩
        try dsimp only
        have d5 : Hid (DTo w1 S1 p (closeY (s, 0)) w5) := d.out.then t5
        clear t5
        go_wp2
        go_ret
        rw [hE.out]
        exact ⟨rfl, hD.out _ _ d5.out⟩
      · have hz' : ¬ (e : Int) = 0 := by omega
        have hE2 : Hid (Z = (s, e)) := by show _ = _; rw [hE.out, closeY_no (x := (s, e)) hz]
        clear hE hz
        go_wp2
        go_ret
        rw [hE2.out]
        exact ⟨rfl, hD.out _ _ d.out⟩
set_option maxRecDepth 100000 in
set_option maxHeartbeats 8000000 in
theorem dl_2 (w : World) (S : Nat → Prop) (p : Value) (st : Wr) (ka : Option Addr) (kn kc : Nat) (desc value start : ByteArray) (ma : Option Addr) (mn mc : Nat) (fin rule : ByteArray) (dn : Bool) (h : RfS w S p st) (L : Nat) (k : FT) (hkn : kn = k.len) (hcm : kn ≤ maxLen) (hk : k.len = 0 ∨ ∃ g o, ka = some ⟨g, o, none⟩ ∧ KStay w S L k g o) (hall : DAll k) (hok : OkF k) :
    Calls Tryz.prog 50 #[p, .agg #[.int .i8 2, .slice ka kn kc, .string desc, .string value, .string start, .slice ma mn mc, .string fin, .string rule, .bool dn]] w fun e w' => e = .returned (.int .i64 (aroundY 162 (kidsY k) (st, 0)).2) ∧ DTo w S p (aroundY 162 (kidsY k) (st, 0)) w' := by
  have q1 : FlT (w.alloc (.cells #[.int .i8 2, .slice ka kn kc, .string desc, .string value, .string start, .slice ma mn mc, .string fin, .string rule, .bool dn] 27)) w.heap.size ⟨2, ka, kn, kc, desc, value, start, ma, mn, mc, fin, rule, dn⟩ := heap_alloc_new _ _
  have x1 := (Ext.refl w).alloc (.cells #[.int .i8 2, .slice ka kn kc, .string desc, .string value, .string start, .slice ma mn mc, .string fin, .string rule, .bool dn] 27)
  obtain ⟨Z, hZ⟩ : ∃ Z, Hid (Z = closeY (kidsY k (openY 162 (st, 0)))) := ⟨_, rfl⟩
  rw [show aroundY 162 (kidsY k) (st, 0) = Z from hZ.out.symm]
  obtain ⟨S1, hS1⟩ : ∃ S1 : Nat → Prop, S1 = fun g => S g ∧ g < w.heap.size := ⟨_, rfl⟩
  have nb : Hid (∀ g, S1 g → g ≠ w.heap.size) := fun g k => by rw [hS1] at k; have := k.2; omega
  have hD : Hid (∀ W, Ext w W → ∀ y w2, DTo W S1 p y w2 → DTo w S p y w2) := fun W e y w2 k => by rw [hS1] at k; exact DTo.from e k
  have hkm : kn ≤ 9223372036854775807 := by unfold maxLen at hcm; omega
  have hknh : Hid (kn = k.len) := hkn
  have hallh : Hid (DAll k ∧ OkF k) := ⟨hall, hok⟩
  have hkh : Hid (k.len = 0 ∨ ∃ g o, ka = some ⟨g, o, none⟩ ∧ KStay (w.alloc (.cells #[.int .i8 2, .slice ka kn kc, .string desc, .string value, .string start, .slice ma mn mc, .string fin, .string rule, .bool dn] 27)) S1 L k g o) := hk.imp id (fun ⟨g, o, e, j⟩ => ⟨g, o, e, j.next x1.only (fun g _ hs => by rw [hS1] at hs; exact hs.1)⟩)
  clear hkn hcm hk hall hok
  have d0 : RfS (w.alloc (.cells #[.int .i8 2, .slice ka kn kc, .string desc, .string value, .string start, .slice ma mn mc, .string fin, .string rule, .bool dn] 27)) S1 p st := by rw [hS1]; exact h.tight.ext x1
  clear hS1 h
  go_enter Tryz.func50, Tryz.ntmps50
  go_upto_region 1 with fail
  generalize World.alloc w _ = w1 at q1 x1 d0 hkh ⊢
  have hD : Hid (∀ y w2, DTo w1 S1 p y w2 → DTo w S p y w2) := hD.out w1 x1
  generalize w.heap.size = HS at q1 nb ⊢
  obtain ⟨c0, c1, c2, c3, c4, c5, c6, c7, c8, -⟩ := q1.cells
  simp only at c0 c1 c2 c3 c4 c5 c6 c7 c8
  have q1c1 := c1
  go_wp2_with fail
  go_at_call 24
  refine (rs_begin 162 w1 S1 p st 2 2 d0 (by omega) rfl rfl (by omega)).mono ?_
  rintro _ w2 ⟨rfl, t2⟩
  try dsimp only
  have d2 := t2
  clear t2
  generalize openY 162 (st, 0) = y2 at d2 hZ ⊢
  obtain ⟨s2, e2⟩ := y2
  have d2 : Hid (DTo w1 S1 p (s2, e2) w2) := d2
  clear c0 c1 c2 c3 c4 c5 c6 c7 c8 d0
  go_wp2_with fail
  go_loopw [5, 6] (fun v5 v6 wr => ∃ (j : Nat) (r : FT) (s : Wr) (e : Nat), v5 = .int .i64 e ∧ v6 = .int .i64 j ∧ j ≤ kn ∧ Hid (j + r.len = kn) ∧ Hid (DAll r ∧ OkF r) ∧ Hid (r.len = 0 ∨ ∃ g o, ka = some ⟨g, o, none⟩ ∧ KStay w1 S1 L r g (o + 9 * j)) ∧ Hid (Z = closeY (kidsY r (s, e))) ∧ Hid (DTo w1 S1 p (s, e) wr)) (fun _ v6 _ => kn - (intOf v6).toNat)
  case atStart => exact ⟨0, k, s2, e2, rfl, rfl, Nat.zero_le _, by show _ = _; have := hknh.out; omega, hallh, hkh, hZ, d2⟩
  case round =>
    clear hallh hkh hknh hZ d2
    obtain ⟨j, r, s, e, rfl, rfl, hj, hjr, hA, hK, hZ, d⟩ := hrel
    have c1 := d.out.2.cell q1c1 (fun k => nb.out _ k rfl)
    by_cases hlt : j < kn
    · have hlt' : (j : Int) < (kn : Int) := by omega
      by_cases hz : e = 0
      · subst hz
        obtain ⟨b3, k3, r3, rfl⟩ : ∃ a kids rest, r = .cons a kids rest := FT.pos (by have := hjr.out; omega)
        obtain ⟨g3, o3, rfl, hce⟩ : ∃ g o, ka = some ⟨g, o, none⟩ ∧ KStay w1 S1 L (.cons b3 k3 r3) g (o + 9 * j) := by
          rcases hK.out with h | h
          · simp [FT.len] at h
          · exact h
        obtain ⟨f3, v3, u3, t3⟩ := hce.here
        have u3 := u3 _ (d.out.2.mono fun g _ hg => .inl hg)
        have hcall := hA.out.1.1 _ _ L p s f3 d.out.1 (v3.next (d.out.2.mono fun g _ hg => .inl hg) (fun g hg hs => up_low g hg hs)) hA.out.2.1 hA.out.2.2.1
        obtain ⟨kind3, ka3, kn3, kc3, desc3, value3, start3, ma3, mn3, mc3, fin3, rule3, dn3⟩ := f3
        have e30 := u3 0 (by simp [F9.arr])
        have e31 := u3 1 (by simp [F9.arr])
        have e32 := u3 2 (by simp [F9.arr])
        have e33 := u3 3 (by simp [F9.arr])
        have e34 := u3 4 (by simp [F9.arr])
        have e35 := u3 5 (by simp [F9.arr])
        have e36 := u3 6 (by simp [F9.arr])
        have e37 := u3 7 (by simp [F9.arr])
        have e38 := u3 8 (by simp [F9.arr])
        simp only [F9.arr, List.getElem_toArray, List.getElem_cons_zero, List.getElem_cons_succ, Nat.add_zero] at e30 e31 e32 e33 e34 e35 e36 e37 e38
        rw [show o3 + 9 * j = o3 + j * 9 by omega] at e30 e31 e32 e33 e34 e35 e36 e37 e38
        simp only [F9.arr] at hcall
        have t3h : Hid (KStay w1 S1 L r3 g3 (o3 + 9 * j + 9)) := t3
        have hA2 : Hid (DAll r3 ∧ OkF r3) := ⟨hA.out.1.2, hA.out.2.2.2⟩
        have hjr2 : Hid (j + 1 + r3.len = kn) := by show _ = _; have := hjr.out; simp only [FT.len] at this; omega
        have hZ2 : Hid (Z = closeY (kidsY r3 (oneY b3 (kidsY k3) (s, 0)))) := hZ.out
        clear hce t3 u3 v3 hA hK hZ hjr
        generalize oneY b3 (kidsY k3) (s, 0) = z at hcall hZ2
        obtain ⟨s', e'⟩ := z
        go_wp2_with fail
        go_at_call 50
        refine hcall.mono ?_
        rintro _ w4 ⟨rfl, t4⟩
        have d4 : Hid (DTo w1 S1 p (s', e') w4) := d.out.then t4
        clear e30 e31 e32 e33 e34 e35 e36 e37 e38 hcall t4 d c1
        try dsimp only
        go_wp2
        go_roundw
        case rel => exact ⟨j + 1, r3, s', e', rfl, by go_num, by omega, hjr2, hA2, .inr ⟨g3, o3, rfl, by rw [show o3 + 9 * (j + 1) = o3 + 9 * j + 9 by omega]; exact t3h.out⟩, hZ2, d4⟩
        case measure => simp [intOf]; omega
      · have hz' : ¬ (e : Int) = 0 := by omega
        have hE : Hid (Z = (s, e)) := by show _ = _; rw [hZ.out, kidsY_no r (x := (s, e)) hz, closeY_no (x := (s, e)) hz]
        clear hA hK hZ hjr hz
        go_wp2
        go_ret
        rw [hE.out]
        exact ⟨rfl, hD.out _ _ d.out⟩
    · have hlt' : ¬ (j : Int) < (kn : Int) := by omega
      have hE : Hid (Z = closeY (s, e)) := by
        show _ = _
        rw [hZ.out]
        cases r with
        | nil => rfl
        | cons _ _ _ => have := hjr.out; simp only [FT.len] at this; omega
      clear hA hK hZ hjr
      by_cases hz : e = 0
      · subst hz
        go_wp2_with fail
        go_at_call 31
        refine (rs_end wr _ p s d.out.1).mono ?_
        rintro _ w5 ⟨rfl, t5⟩
        try dsimp only
        have d5 : Hid (DTo w1 S1 p (closeY (s, 0)) w5) := d.out.then t5
        clear t5
        go_wp2
        go_ret
        rw [hE.out]
        exact ⟨rfl, hD.out _ _ d5.out⟩
      · have hz' : ¬ (e : Int) = 0 := by omega
        have hE2 : Hid (Z = (s, e)) := by show _ = _; rw [hE.out, closeY_no (x := (s, e)) hz]
        clear hE hz
        go_wp2
        go_ret
        rw [hE2.out]
        exact ⟨rfl, hD.out _ _ d.out⟩
end Go.Proofs.YtdcfiphffbgocaaGreatDoor
