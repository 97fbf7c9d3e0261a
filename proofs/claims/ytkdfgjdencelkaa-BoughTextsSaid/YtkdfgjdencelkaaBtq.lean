/-
  BoughTexts: what both sides hold, and one call on both.
-/
import Derived.Test.YtkdfgjdencelkaaBrt7
import Derived.Test.YtkdfgjdencelkaaBrkT
import Derived.Test.YtkdfgjdencelkaaBsame
namespace Go.Proofs.Ytkdfgjdencelkaa
open Go.RowKit
section
variable {α β γ : Type}
/-- other values in a row -/
def mv (f : β → γ) (l : List (α × β)) : List (α × γ) := l.map fun p => (p.1, f p.2)
theorem getL_mv (c : α → α → Int) (k : α) (f : β → γ) (l : List (α × β)) : getL c k (mv f l) = (getL c k l).map (fun p => (p.1, f p.2)) := by
  induction l with
  | nil => rfl
  | cons p t ih =>
    simp only [mv, List.map_cons, getL] at ih ⊢
    split
    · exact ih
    · split <;> rfl
theorem rankL_mv (c : α → α → Int) (k : α) (f : β → γ) (l : List (α × β)) : rankL c k (mv f l) = rankL c k l := by
  induction l with
  | nil => rfl
  | cons p t ih =>
    simp only [mv, List.map_cons, rankL] at ih ⊢
    split
    · rw [ih]
    · rfl
theorem putL_mv (c : α → α → Int) (k : α) (v : β) (f : β → γ) (l : List (α × β)) : putL c k (f v) (mv f l) = mv f (putL c k v l) := by
  induction l with
  | nil => rfl
  | cons p t ih =>
    simp only [mv, List.map_cons, putL] at ih ⊢
    split
    · rw [ih]; rfl
    · split <;> rfl
theorem delL_mv (c : α → α → Int) (k : α) (f : β → γ) (l : List (α × β)) : delL c k (mv f l) = mv f (delL c k l) := by
  induction l with
  | nil => rfl
  | cons p t ih =>
    simp only [mv, List.map_cons, delL] at ih ⊢
    split
    · rw [ih]; rfl
    · split <;> rfl
theorem srt_mv (c : α → α → Int) (f : β → γ) (l : List (α × β)) (h : Srt c l) : Srt c (mv f l) := by
  unfold Srt mv at *
  rw [List.pairwise_map]
  exact h
theorem getL_mem (c : α → α → Int) (k : α) (l : List (α × β)) (p : α × β) (h : getL c k l = some p) : p ∈ l := by
  induction l with
  | nil => cases h
  | cons q t ih =>
    simp only [getL] at h
    split at h
    · exact List.mem_cons_of_mem _ (ih h)
    · split at h
      · cases h; simp
      · cases h
end
/-- a script's words and what lies below m stand -/
def Byt (m : Nat) (W W' : World) : Prop := Below m W W' ∧ ∀ (g : Nat) (c : Array Value) (fz : Nat × Nat), W.heap[g]? = some (Obj.cells c 55 fz) → W'.heap[g]? = some (Obj.cells c 55 fz)
theorem Byt.only {m : Nat} {S : Nat → Prop} {W W' : World} (o : Only S W W') (hm : m ≤ W.heap.size) (h1 : ∀ g, S g → m ≤ g) (h2 : ∀ g c fz, S g → W.heap[g]? ≠ some (.cells c 55 fz)) : Byt m W W' :=
  ⟨o.below hm h1, fun g c fz hg => (o.block g (Array.getElem?_eq_some_iff.1 hg).1 (fun hs => h2 g c fz hs hg)).trans hg⟩
theorem TxAt.ext {w w' : World} {S : Nat → Prop} {R : Nat} {L : List (ByteArray × Nat)} (h : TxAt w S R L) (x : Ext w w') : TxAt w' S R L := by
  obtain ⟨u1, u2, h1, h2, h3⟩ := h
  exact ⟨u1, u2, ext_block x h1, h2.ext x, h3.ext x⟩
/-- blocks of one other type turn -/
theorem TxAt.only {S : Nat → Prop} {W W' : World} (oo : Only S W W') (hS : ∀ g, S g → ∃ c t fz, W.heap[g]? = some (.cells c t fz) ∧ t ≠ 53 ∧ t ≠ 9 ∧ t ≠ 3) {F : Nat → Prop} {R : Nat} {L : List (ByteArray × Nat)} (h : TxAt W F R L) : TxAt W' F R L := by
  obtain ⟨u1, u2, h1, h2, h3⟩ := h
  refine ⟨u1, u2, (oo.block R (Array.getElem?_eq_some_iff.1 h1).1 (fun hs => ?_)).trans h1, ?_, ?_⟩
  · obtain ⟨c, t, fz, h8, h7, _⟩ := hS _ hs
    rw [h8] at h1
    simp only [Option.some.injEq, Obj.cells.injEq] at h1
    exact h7 h1.2.1
  · refine ⟨(Row.kept (Row.min h2) oo (fun g hg hs => ?_)).1, h2.2⟩
    obtain ⟨c', hc⟩ := own_typeN h2 g hg
    obtain ⟨c, t, fz, h8, _, h7, _⟩ := hS _ hs
    rw [h8] at hc
    simp only [Option.some.injEq, Obj.cells.injEq] at hc
    exact h7 hc.2.1
  · refine ⟨(Row.kept (Row.min h3) oo (fun g hg hs => ?_)).1, h3.2⟩
    obtain ⟨c', hc⟩ := own_typeN h3 g hg
    obtain ⟨c, t, fz, h8, _, _, h7⟩ := hS _ hs
    rw [h8] at hc
    simp only [Option.some.injEq, Obj.cells.injEq] at hc
    exact h7 hc.2.1
theorem BT.BgAt.only {S : Nat → Prop} {W W' : World} (oo : Only S W W') (hS : ∀ g, S g → ∃ c t fz, W.heap[g]? = some (.cells c t fz) ∧ t ≠ 107 ∧ t ≠ 101) {B : Nat} {t : Tr ByteArray SlV} (h : BT.BgAt W B t) : BT.BgAt W' B t := by
  obtain ⟨q, hB, hn, hcp⟩ := h
  refine ⟨q, (oo.block B (Array.getElem?_eq_some_iff.1 hB).1 (fun hs => ?_)).trans hB, hn.only oo (fun g c fz hg h9 => ?_), trivial⟩
  · obtain ⟨c, t, fz, h8, _, h7⟩ := hS _ hs
    rw [h8] at hB
    simp only [Option.some.injEq, Obj.cells.injEq] at hB
    exact h7 hB.2.1
  · obtain ⟨c, t, fz, h8, h7, _⟩ := hS _ hg
    rw [h8] at h9
    simp only [Option.some.injEq, Obj.cells.injEq] at h9
    exact h7 h9.2.1
/-- both sides -/
structure TxS (m : Nat) (W : World) (B R : Nat) (Vs : Nat → SlV) (i : Nat) (t : Tr ByteArray SlV) (L : List (ByteArray × Nat)) : Prop where
  bg : BT.BgAt W B t
  tx : TxAt W (fun k => m ≤ k) R L
  srt : Srt cmpS L
  row : t.row = mv Vs L
  lt : ∀ p ∈ L, p.2 < i
  len : L.length ≤ i
  mB : m ≤ B
  mR : m ≤ R
  mW : m ≤ W.heap.size
theorem TxS.ext {m : Nat} {W W' : World} {B R : Nat} {Vs : Nat → SlV} {i : Nat} {t : Tr ByteArray SlV} {L : List (ByteArray × Nat)} (h : TxS m W B R Vs i t L) (x : Ext W W') : TxS m W' B R Vs i t L :=
  ⟨h.bg.ext x, h.tx.ext x, h.srt, h.row, h.lt, h.len, h.mB, h.mR, Nat.le_trans h.mW x.size⟩
theorem TxS.next {m : Nat} {W : World} {B R : Nat} {Vs : Nat → SlV} {i : Nat} {t : Tr ByteArray SlV} {L : List (ByteArray × Nat)} (h : TxS m W B R Vs i t L) : TxS m W B R Vs (i + 1) t L :=
  ⟨h.bg, h.tx, h.srt, h.row, fun p hp => Nat.lt_succ_of_lt (h.lt p hp), Nat.le_succ_of_le h.len, h.mB, h.mR, h.mW⟩
theorem TxS.cnt {m : Nat} {W : World} {B R : Nat} {Vs : Nat → SlV} {i : Nat} {t : Tr ByteArray SlV} {L : List (ByteArray × Nat)} (h : TxS m W B R Vs i t L) : t.cnt = L.length := by
  rw [← Tr.row_len, h.row]; simp [mv]
/-- the bough's own side has gone ahead -/
structure TxM (m : Nat) (W : World) (B R : Nat) (t : Tr ByteArray SlV) (L : List (ByteArray × Nat)) : Prop where
  bg : BT.BgAt W B t
  tx : TxAt W (fun k => m ≤ k) R L
  mW : m ≤ W.heap.size
section
variable {m : Nat} {W : World} {B R : Nat} {Vs : Nat → SlV} {i : Nat} {t : Tr ByteArray SlV} {L : List (ByteArray × Nat)}
theorem byB {W W' : World} (hb : BT.BgAt W B t) (o : Only (fun g => g = B) W W') (hm : m ≤ W.heap.size) (hB : m ≤ B) : Byt m W W' := by
  obtain ⟨q, h1, _⟩ := hb
  refine Byt.only o hm (fun g hg => by rw [hg]; exact hB) (fun g c fz hg h9 => ?_)
  rw [show g = B from hg, h1] at h9
  simp only [Option.some.injEq, Obj.cells.injEq] at h9
  exact absurd h9.2.1 (by decide)
theorem byR {W W' : World} (hb : TxAt W (fun k => m ≤ k) R L) (o : Only (fun g => g = R) W W') (hm : m ≤ W.heap.size) (hR : m ≤ R) : Byt m W W' := by
  obtain ⟨u1, u2, h1, _⟩ := hb
  refine Byt.only o hm (fun g hg => by rw [hg]; exact hR) (fun g c fz hg h9 => ?_)
  rw [show g = R from hg, h1] at h9
  simp only [Option.some.injEq, Obj.cells.injEq] at h9
  exact absurd h9.2.1 (by decide)
theorem txB {W W' : World} (hb : BT.BgAt W B t) (o : Only (fun g => g = B) W W') {F : Nat → Prop} (h : TxAt W F R L) : TxAt W' F R L := by
  obtain ⟨q, h1, _⟩ := hb
  exact h.only o (fun g (hg : g = B) => by rw [hg]; exact ⟨_, _, _, h1, by decide, by decide, by decide⟩)
theorem bgR {W W' : World} {F : Nat → Prop} (hb : TxAt W F R L) (o : Only (fun g => g = R) W W') (h : BT.BgAt W B t) : BT.BgAt W' B t := by
  obtain ⟨u1, u2, h1, _⟩ := hb
  exact h.only o (fun g (hg : g = R) => by rw [hg]; exact ⟨_, _, _, h1, by decide, by decide⟩)
theorem xPut (h : TxS m W B R Vs i t L) (hi : i ≤ 2999999999999) (k : ByteArray) (v : SlV) (hv : Vs i = v) : Calls Try.prog 20 #[.pointer (some ⟨B, 0, none⟩), .string k, .slice v.1 v.2.1 v.2.2] W fun e W' => e = .returned (.bool (getL cmpS k L).isNone) ∧ TxM m W' B R (t.put cmpS k v) L ∧ Byt m W W' := by
  have hl := h.len
  have hc := h.cnt
  refine (BT.Put_any W B t h.bg k v (by omega)).mono ?_
  rintro _ W' ⟨rfl, b1, o1⟩
  refine ⟨?_, ⟨b1, txB h.bg o1 h.tx, Nat.le_trans h.mW o1.size⟩, byB h.bg o1 h.mW h.mB⟩
  have hr := Tr.row_put cmpS_ord k v t (by rw [h.row]; exact srt_mv _ _ _ h.srt)
  have h1 : (t.put cmpS k v).cnt = L.length + if (getL cmpS k L).isSome then 0 else 1 := by
    rw [← Tr.row_len, hr, h.row, ← hv, putL_mv]
    simp only [mv, List.length_map]
    exact put_len _ _ _ _
  rw [h1, hc]
  cases getL cmpS k L <;> simp
theorem yPut (h : TxS m W B R Vs i t L) (hi : i ≤ 2999999999999) (k : ByteArray) (v : SlV) (hv : Vs i = v) (W1 : World) (h1 : TxM m W1 B R (t.put cmpS k v) L) : Calls Try.prog 21 #[.pointer (some ⟨R, 0, none⟩), .string k, .int .i64 (i : Int)] W1 fun e W' => e = .returned (.bool (getL cmpS k L).isNone) ∧ TxS m W' B R Vs (i + 1) (t.put cmpS k v) (putL cmpS k i L) ∧ Byt m W1 W' := by
  have hl := h.len
  have hr := Tr.row_put cmpS_ord k v t (by rw [h.row]; exact srt_mv _ _ _ h.srt)
  have hs := srt_put cmpS_ord k i L h.srt
  have fin : ∀ W', BT.BgAt W' B (t.put cmpS k v) → TxAt W' (fun k => m ≤ k) R (putL cmpS k i L) → m ≤ W'.heap.size → TxS m W' B R Vs (i + 1) (t.put cmpS k v) (putL cmpS k i L) := fun W' a1 a2 a3 => by
    refine ⟨a1, a2, hs.1, ?_, fun p hp => ?_, ?_, h.mB, h.mR, a3⟩
    · rw [hr, h.row, ← hv, putL_mv]
    · rcases hs.2 p hp with rfl | hp
      · exact Nat.lt_succ_self _
      · exact Nat.lt_succ_of_lt (h.lt p hp)
    · rw [put_len]; split <;> omega
  cases hg : getL cmpS k L with
  | none =>
    refine (tPut_new W1 m R h1.mW L h1.tx k i (by omega) hg).mono ?_
    rintro _ W' ⟨rfl, t1, o1⟩
    exact ⟨rfl, fin W' (bgR h1.tx o1 h1.bg) t1 (Nat.le_trans h1.mW o1.size), byR h1.tx o1 h1.mW h.mR⟩
  | some p =>
    refine (tPut_over W1 _ R L h1.tx k i (by rw [hg]; rfl)).mono ?_
    rintro _ W' ⟨rfl, t1, u1, u2, e1, o1⟩
    obtain ⟨v1, v2, e2, r1, r2⟩ := h1.tx
    rw [e1] at e2
    simp only [Option.some.injEq, Obj.cells.injEq, Array.mk.injEq, List.cons.injEq, and_true] at e2
    obtain ⟨rfl, rfl⟩ := e2
    have hty : ∀ g, own u2 g → ∃ c, W1.heap[g]? = some (.cells c 3 (0, 0)) := fun g hg => own_typeN r2 g hg
    refine ⟨rfl, fin W' (h1.bg.only o1 (fun g hg => ?_)) t1 (Nat.le_trans h1.mW o1.size), Byt.only o1 h1.mW (fun g hg => r2.2 g hg) (fun g c fz hg h9 => ?_)⟩
    · obtain ⟨c, hc⟩ := hty g hg
      exact ⟨_, _, _, hc, by decide, by decide⟩
    · obtain ⟨c', hc⟩ := hty g hg
      rw [hc] at h9
      simp only [Option.some.injEq, Obj.cells.injEq] at h9
      exact absurd h9.2.1 (by decide)
theorem xDel (h : TxS m W B R Vs i t L) (hi : i ≤ 2999999999999) (k : ByteArray) : Calls Try.prog 22 #[.pointer (some ⟨B, 0, none⟩), .string k] W fun e W' => e = .returned (.bool (getL cmpS k L).isSome) ∧ TxM m W' B R (t.del cmpS k) L ∧ Byt m W W' := by
  have hl := h.len
  have hc := h.cnt
  refine (BT.Del_any W B t h.bg k (by omega)).mono ?_
  rintro _ W' ⟨rfl, b1, o1⟩
  refine ⟨?_, ⟨b1, txB h.bg o1 h.tx, Nat.le_trans h.mW o1.size⟩, byB h.bg o1 h.mW h.mB⟩
  have hr := (Tr.row_del cmpS_ord k t (by rw [h.row]; exact srt_mv _ _ _ h.srt)).1
  have h1 : (t.del cmpS k).cnt + (if (getL cmpS k L).isSome then 1 else 0) = L.length := by
    rw [← Tr.row_len, hr, h.row, delL_mv]
    simp only [mv, List.length_map]
    exact del_len _ _ _
  rw [hc, ← h1]
  cases getL cmpS k L <;> simp
theorem yDel (h : TxS m W B R Vs i t L) (hi : i ≤ 2999999999999) (k : ByteArray) (W1 : World) (h1 : TxM m W1 B R (t.del cmpS k) L) : Calls Try.prog 23 #[.pointer (some ⟨R, 0, none⟩), .string k] W1 fun e W' => e = .returned (.bool (getL cmpS k L).isSome) ∧ TxS m W' B R Vs (i + 1) (t.del cmpS k) (delL cmpS k L) ∧ Byt m W1 W' := by
  have hl := h.len
  have hr := (Tr.row_del cmpS_ord k t (by rw [h.row]; exact srt_mv _ _ _ h.srt)).1
  have hs := srt_del (c := cmpS) k L h.srt
  have fin : ∀ W', BT.BgAt W' B (t.del cmpS k) → TxAt W' (fun k => m ≤ k) R (delL cmpS k L) → m ≤ W'.heap.size → TxS m W' B R Vs (i + 1) (t.del cmpS k) (delL cmpS k L) := fun W' a1 a2 a3 => by
    refine ⟨a1, a2, hs.1, ?_, fun p hp => Nat.lt_succ_of_lt (h.lt p (hs.2 p hp)), ?_, h.mB, h.mR, a3⟩
    · rw [hr, h.row, delL_mv]
    · have := del_len cmpS k L
      omega
  cases hg : getL cmpS k L with
  | none =>
    refine (tDel_none W1 _ R L h1.tx k hg).mono ?_
    rintro _ W' ⟨rfl, e1, rfl⟩
    exact ⟨rfl, fin W' h1.bg (by rw [e1]; exact h1.tx) h1.mW, Below.refl _ _, fun _ _ _ hg => hg⟩
  | some p =>
    refine (tDel_some W1 m R h1.mW L h1.tx k (by omega) (by rw [hg]; rfl)).mono ?_
    rintro _ W' ⟨rfl, t1, o1⟩
    exact ⟨rfl, fin W' (bgR h1.tx o1 h1.bg) t1 (Nat.le_trans h1.mW o1.size), byR h1.tx o1 h1.mW h.mR⟩
end
end Go.Proofs.Ytkdfgjdencelkaa
