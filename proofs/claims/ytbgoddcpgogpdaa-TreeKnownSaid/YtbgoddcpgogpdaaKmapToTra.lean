/-
  The map of a tree: which key each number stands at.
-/
import Derived.Test.YtbgoddcpgogpdaaBtxToBptU
import Derived.Maps.OwnSet
import Derived.Maps.Views
import Derived.Maps.StringElems
import Derived.Test.YtbgoddcpgogpdaaBdlUToBbgU
namespace Go.Proofs.Ytbgoddcpgogpdaa
open Go.RowKit Go.Maps

theorem law6 : Keyed Try.prog 33 := int_keyed Try.underlying33
theorem zeroS (w : World) : (zeroValue 9).run Try.prog w = .ok (.string ⟨#[]⟩) w := by kernel_rfl
theorem wf6 (id : UInt64) : (Lit.int .u64 (id.toNat : Int)).wf = true := by
  have := id.toNat_lt
  simp [Lit.wf, IntKind.min, IntKind.max, IntKind.signed, IntKind.bits]; omega
theorem key6 (id : UInt64) : keyOf Try.prog 33 (.int .u64 (id.toNat : Int)) = some (.int .u64 (id.toNat : Int)) := keyOf_int_mk Try.underlying33 (wf6 id)
theorem ne6 {a b : UInt64} (h : a ≠ b) : Lit.int .u64 (a.toNat : Int) ≠ Lit.int .u64 (b.toNat : Int) := fun e => h (by
  simp only [Lit.int.injEq, true_and] at e
  exact UInt64.toNat_inj.1 (by omega))
/-- block m is a map of at most n entries: f says what key a number has -/
def KmAt (w : World) (m n : Nat) (f : UInt64 → Option ByteArray) : Prop :=
  ∃ D : DataW Unit, w.ownsMap Try.prog 33 (plainElem Try.prog 9) m n D ∧ ∀ id : UInt64, Maps.has D (.int .u64 (id.toNat : Int)) = (f id).isSome ∧ D.atKey (.int .u64 (id.toNat : Int)) (.lit (.string [])) = .lit (.string ((f id).getD ⟨#[]⟩).data.toList)
theorem KmAt.lt {w : World} {m n : Nat} {f : UInt64 → Option ByteArray} (h : KmAt w m n f) : m < w.heap.size := h.choose_spec.1.lt
theorem KmAt.mono {w : World} {m n n' : Nat} {f : UInt64 → Option ByteArray} (h : KmAt w m n f) (hn : n ≤ n') : KmAt w m n' f := by
  obtain ⟨D, ho, hf⟩ := h
  exact ⟨D, ho.mono hn, hf⟩
theorem KmAt.same {w w' : World} {m n : Nat} {f : UInt64 → Option ByteArray} (h : KmAt w m n f) (e : w'.heap[m]? = w.heap[m]?) : KmAt w' m n f := by
  obtain ⟨D, ⟨es, cl, hb, r⟩, hf⟩ := h
  exact ⟨D, ⟨es, cl, e.trans hb, r⟩, hf⟩
theorem KmAt.ext {w w' : World} {m n : Nat} {f : UInt64 → Option ByteArray} (h : KmAt w m n f) (x : Ext w w') : KmAt w' m n f := h.same (x.block m h.lt)
theorem KmAt.only {S : Nat → Prop} {w w' : World} {m n : Nat} {f : UInt64 → Option ByteArray} (h : KmAt w m n f) (x : Only S w w') (hS : ¬ S m) : KmAt w' m n f := h.same (x.block m h.lt hS)
theorem KmAt.notCells {w : World} {m n : Nat} {f : UInt64 → Option ByteArray} (h : KmAt w m n f) : ∀ c t fz, w.heap[m]? ≠ some (.cells c t fz) := by
  obtain ⟨D, ⟨es, cl, hb, _⟩, _⟩ := h
  intro c t fz e
  rw [hb] at e; cases e
theorem kmAt_made (w : World) : KmAt (w.alloc (.map #[] 0)) w.heap.size 0 (fun _ => none) :=
  ⟨.map [], World.ownsMap_made w _ _ _, fun _ => ⟨rfl, rfl⟩⟩
theorem KmAt.look_ok {w : World} {m n : Nat} {f : UInt64 → Option ByteArray} (h : KmAt w m n f) (id : UInt64) :
    (Instr.lookup 55 (.map (some m)) (.int .u64 (id.toNat : Int)) true).run Try.prog w = .ok (.tuple #[.string ((f id).getD ⟨#[]⟩), .bool (f id).isSome]) w := by
  obtain ⟨D, ho, hf⟩ := h
  obtain ⟨v, ps, hr, hv⟩ := ho.look_ok law6 Try.underlying55 (zeroS w) (plainElem_string (s := ⟨#[]⟩) Try.underlying9 (Nat.zero_le _)) (key6 id)
  obtain ⟨s, rfl, hc, _⟩ := plainElem_string_inv Try.underlying9 hv
  obtain ⟨h1, h2⟩ := hf id
  simp only [Prod.mk.injEq] at hc
  have h3 : DataW.lit (Lit.string ((f id).getD ⟨#[]⟩).data.toList) = DataW.lit (H := Unit) (Lit.string s.data.toList) := h2.symm.trans hc.1
  simp only [DataW.lit.injEq, Lit.string.injEq] at h3
  have h4 : (f id).getD ⟨#[]⟩ = s := by
    have := Array.toList_inj.1 h3
    cases s; cases hh : (f id).getD ⟨#[]⟩ with
    | mk d => rw [hh] at this; simp only at this; rw [this]
  rw [hr, h4]
  exact congrArg (fun b => Result.ok (Value.tuple #[Value.string s, Value.bool b]) w) h1
def updK (f : UInt64 → Option ByteArray) (k : UInt64) (z : Option ByteArray) : UInt64 → Option ByteArray := fun l => if l = k then z else f l
theorem KmAt.store {w : World} {m n : Nat} {f : UInt64 → Option ByteArray} (h : KmAt w m n f) (id : UInt64) (s : ByteArray) (hs : s.size ≤ maxLen) (hn : n < maxLen) :
    ∃ w', (Instr.mapUpdate 55 (.map (some m)) (.int .u64 (id.toNat : Int)) (.string s)).run Try.prog w = .ok () w' ∧ KmAt w' m (n + 1) (updK f id (some s)) ∧ Only (fun k => k = m) w w' := by
  obtain ⟨D, ho, hf⟩ := h
  obtain ⟨w', hr, ho', hg⟩ := ho.update law6 Try.underlying55 hn (key6 id) (plainElem_string Try.underlying9 hs)
  refine ⟨w', hr, ⟨_, ho', fun l => ?_⟩, ⟨hg.os, hg.tape, hg.output, hg.size, fun k hk hn => hg.block k hk (fun e => hn (by cases e; rfl))⟩⟩
  have hm : IsMap D := ho.isMap
  by_cases e : l = id
  · subst e
    rw [updK, if_pos rfl]
    exact ⟨has_put_same hm (by exact trivial) _, atKey_put_same hm (by exact trivial) _ _⟩
  · rw [updK, if_neg e]
    obtain ⟨h1, h2⟩ := hf l
    exact ⟨(has_put_other (ne6 e) _).trans h1, (atKey_put_other (ne6 e) _ _).trans h2⟩
theorem KmAt.drop {w : World} {m n : Nat} {f : UInt64 → Option ByteArray} (h : KmAt w m n f) (id : UInt64) (ty : TypeId) :
    ∃ w', (Builtin.delete_ #[55, 33] ty #[.map (some m), .int .u64 (id.toNat : Int)]).run Try.prog w = .ok (.tuple #[]) w' ∧ KmAt w' m n (updK f id none) ∧ Only (fun k => k = m) w w' := by
  obtain ⟨D, ho, hf⟩ := h
  obtain ⟨w', hr, ho', ht⟩ := ho.drop law6 Try.underlying55 (key6 id) ty
  have hg := ht.grown
  refine ⟨w', hr, ⟨_, ho', fun l => ?_⟩, ⟨hg.os, hg.tape, hg.output, hg.size, fun k hk hn => hg.block k hk (fun e => hn (by cases e; rfl))⟩⟩
  by_cases e : l = id
  · subst e
    rw [updK, if_pos rfl]
    exact ⟨has_del_same, atKey_del_same _⟩
  · rw [updK, if_neg e]
    obtain ⟨h1, h2⟩ := hf l
    exact ⟨(has_del_other (ne6 e)).trans h1, (atKey_del_other (ne6 e) _).trans h2⟩
end Go.Proofs.Ytbgoddcpgogpdaa

/-
  A tree in memory: its bough and its map; has, put, Id, Key, Len.
-/
namespace Go.Proofs.Ytbgoddcpgogpdaa
open Go.RowKit Go.Shelf Go.Maps

/-- a tree: its bough at B, its map at M -/
structure TrAt (w : World) (T B M : Nat) (t : Tr ByteArray UInt64) (f : UInt64 → Option ByteArray) (n : Nat) : Prop where
  tr : w.heap[T]? = some (.cells #[.pointer (some ⟨B, 0, none⟩), .map (some M)] 57 (0, 0))
  bg : BU.BgAt w B t
  km : KmAt w M n f
section
variable {w w' : World} {T B M n : Nat} {t : Tr ByteArray UInt64} {f : UInt64 → Option ByteArray}
theorem TrAt.cells (h : TrAt w T B M t f n) : w.cell? ⟨T, 0, none⟩ = some (.pointer (some ⟨B, 0, none⟩)) ∧ w.cell? ⟨T, 1, none⟩ = some (.map (some M)) := ⟨cell_of_row _ _ 0 _ _ _ h.tr, cell_of_row _ _ 1 _ _ _ h.tr⟩
theorem TrAt.ext (h : TrAt w T B M t f n) (x : Ext w w') : TrAt w' T B M t f n := ⟨ext_block x h.tr, h.bg.ext x, h.km.ext x⟩
theorem TrAt.apart (h : TrAt w T B M t f n) : T ≠ B ∧ B ≠ M ∧ T ≠ M := by
  obtain ⟨q, hB, -, -⟩ := h.bg
  refine ⟨fun e => ?_, fun e => ?_, fun e => ?_⟩
  · have := h.tr; rw [e, hB] at this; simp at this
  · subst e; exact h.km.notCells _ _ _ hB
  · have := h.tr; rw [e] at this; exact h.km.notCells _ _ _ this
theorem BgAt.only {S : Nat → Prop} (h : BU.BgAt w B t) (o : Only S w w') (hB : ¬ S B) (hS : ∀ g c fz, S g → w.heap[g]? ≠ some (.cells c 80 fz)) : BU.BgAt w' B t := by
  obtain ⟨q, h1, h2, h3⟩ := h
  exact ⟨q, (o.block B (Array.getElem?_eq_some_iff.1 h1).1 hB).trans h1, NdAt.only o hS h2, trivial⟩
theorem BgAt.lt (h : BU.BgAt w B t) : B < w.heap.size := by
  obtain ⟨q, h1, -, -⟩ := h
  exact (Array.getElem?_eq_some_iff.1 h1).1
theorem TrAt.put_b {t' : Tr ByteArray UInt64} (h : TrAt w T B M t f n) (o : Only (fun g => g = B) w w') (hb : BU.BgAt w' B t') : TrAt w' T B M t' f n := by
  obtain ⟨a1, a2, a3⟩ := h.apart
  exact ⟨(o.block T (Array.getElem?_eq_some_iff.1 h.tr).1 a1).trans h.tr, hb, h.km.only o (fun e => a2 e.symm)⟩
theorem TrAt.put_m {f' : UInt64 → Option ByteArray} {n' : Nat} (h : TrAt w T B M t f n) (o : Only (fun g => g = M) w w') (hm : KmAt w' M n' f') : TrAt w' T B M t f' n' := by
  obtain ⟨a1, a2, a3⟩ := h.apart
  exact ⟨(o.block T (Array.getElem?_eq_some_iff.1 h.tr).1 a3).trans h.tr, BgAt.only h.bg o a2 (fun g c fz hg e => by subst hg; exact h.km.notCells _ _ _ e), hm⟩
end
def idO (x : Option (ByteArray × UInt64)) : Nat := (x.map fun p => p.2.toNat).getD 0
theorem getO_tuple (x : Option (ByteArray × UInt64)) : BU.getO x = .tuple #[.int .u64 (idO x : Nat), .bool x.isSome] := by
  cases x <;> rfl
set_option maxRecDepth 100000 in
theorem has_any (w : World) (T B M n : Nat) (t : Tr ByteArray UInt64) (f : UInt64 → Option ByteArray) (h : TrAt w T B M t f n) (k : ByteArray) :
    Calls Try.prog 29 #[.pointer (some ⟨T, 0, none⟩), .string k] w fun e w' => e = .returned (.bool (t.get cmpS k).isSome) ∧ Ext w w' := by
  obtain ⟨c0, c1⟩ := h.cells
  have hG := BU.Get_any w B t h.bg k
  rw [getO_tuple] at hG
  generalize t.get cmpS k = x at *
  generalize idO x = v at hG
  generalize x.isSome = b at hG ⊢
  clear h c1
  go_enter Try.func29, Try.ntmps29
  go_wp2_with fail
  go_at_call 27
  refine hG.mono ?_
  rintro _ w1 ⟨rfl, x1⟩
  go_wp2
  go_ret
  exact ⟨rfl, x1⟩
set_option maxRecDepth 100000 in
theorem tput_any (w : World) (T B M n : Nat) (t : Tr ByteArray UInt64) (f : UInt64 → Option ByteArray) (h : TrAt w T B M t f n) (k : ByteArray) (id : UInt64) (hk : k.size ≤ maxLen) (hn : n < maxLen) (hc : t.cnt ≤ 100000000000000) :
    Calls Try.prog 35 #[.pointer (some ⟨T, 0, none⟩), .string k, .int .u64 id.toNat] w fun e w' => e = .returned (.tuple #[]) ∧ TrAt w' T B M (t.put cmpS k id) (updK f id (some k)) (n + 1) ∧ Only (fun g => g = B ∨ g = M) w w' := by
  obtain ⟨c0, c1⟩ := h.cells
  have hP := BU.Put_any w B t h.bg k id hc
  have hh : Hid (TrAt w T B M t f n) := h
  clear h c1
  go_enter Try.func35, Try.ntmps35
  go_wp2_with fail
  go_at_call 48
  refine hP.mono ?_
  rintro _ w1 ⟨rfl, hb, o1⟩
  have h1 := hh.out.put_b o1 hb
  obtain ⟨w2, hr, hm, o2⟩ := h1.km.store id k hk hn
  have h2 : Hid (TrAt w2 T B M (t.put cmpS k id) (updK f id (some k)) (n + 1)) := h1.put_m o2 hm
  have o3 : Hid (Only (fun g => g = B ∨ g = M) w w2) := (o1.mono fun g _ e => .inl e).then (o2.mono fun g _ e => .inr e)
  obtain ⟨d0, d1⟩ := h1.cells
  clear h1 hb hm o1 o2 c0 hP hh
  go_wp2
  go_end0
  exact ⟨rfl, h2.out, o3.out⟩
set_option maxRecDepth 100000 in
theorem Id_any (w : World) (T B M n : Nat) (t : Tr ByteArray UInt64) (f : UInt64 → Option ByteArray) (h : TrAt w T B M t f n) (k : ByteArray) :
    Calls Try.prog 13 #[.pointer (some ⟨T, 0, none⟩), .string k] w fun e w' => e = .returned (.tuple #[.int .u64 (idO (t.get cmpS k) : Nat), .bool (t.get cmpS k).isSome]) ∧ Ext w w' := by
  obtain ⟨c0, c1⟩ := h.cells
  have hG := BU.Get_any w B t h.bg k
  rw [getO_tuple] at hG
  generalize t.get cmpS k = x at *
  generalize idO x = v at hG ⊢
  generalize x.isSome = b at hG ⊢
  clear h c1
  go_enter Try.func13, Try.ntmps13
  go_wp2_with fail
  go_at_call 27
  refine hG.mono ?_
  rintro _ w1 ⟨rfl, x1⟩
  go_wp2
  go_ret2
  exact ⟨rfl, x1⟩
set_option maxRecDepth 100000 in
theorem Key_any (w : World) (T B M n : Nat) (t : Tr ByteArray UInt64) (f : UInt64 → Option ByteArray) (h : TrAt w T B M t f n) (id : UInt64) :
    Calls Try.prog 12 #[.pointer (some ⟨T, 0, none⟩), .int .u64 id.toNat] w fun e w' => e = .returned (.tuple #[.string ((f id).getD ⟨#[]⟩), .bool (f id).isSome]) ∧ Ext w w' := by
  obtain ⟨c0, c1⟩ := h.cells
  have hl := h.km.look_ok id
  generalize (f id).getD ⟨#[]⟩ = s at *
  generalize (f id).isSome = b at *
  clear h c0
  go_enter Try.func12, Try.ntmps12
  go_wp2
  go_ret2
  exact ⟨rfl, Ext.refl _⟩
set_option maxRecDepth 100000 in
theorem Len_any (w : World) (T B M n : Nat) (t : Tr ByteArray UInt64) (f : UInt64 → Option ByteArray) (h : TrAt w T B M t f n) :
    Calls Try.prog 10 #[.pointer (some ⟨T, 0, none⟩)] w fun e w' => e = .returned (.int .i64 (t.cnt : Nat)) ∧ Ext w w' := by
  obtain ⟨c0, c1⟩ := h.cells
  have hG := BU.Len_any w B t h.bg
  generalize t.cnt = v at hG ⊢
  clear h c1
  go_enter Try.func10, Try.ntmps10
  go_wp2_with fail
  go_at_call 26
  refine hG.mono ?_
  rintro _ w1 ⟨rfl, rfl⟩
  go_wp2
  go_ret
  exact ⟨rfl, Ext.refl _⟩
set_option maxRecDepth 100000 in
theorem New_any (w : World) : Calls Try.prog 25 #[] w fun e w' => ∃ T B M, e = .returned (.pointer (some ⟨T, 0, none⟩)) ∧ TrAt w' T B M .nil (fun _ => none) 0 ∧ Ext w w' ∧ w.heap.size ≤ T ∧ w.heap.size ≤ B ∧ w.heap.size ≤ M := by
  have hN := fun W => BU.New_any W trivial
  have hmm := @run_makeMap Try.prog
  go_enter Try.func25, Try.ntmps25
  go_wp2_with fail
  go_at_call 38
  refine (hN w).mono ?_
  rintro _ w1 ⟨rfl, hb, x1, hlt⟩
  have y2 := (Ext.refl w1).alloc (.map #[] 0)
  have m2 := kmAt_made w1
  have y3 := (Ext.refl (w1.alloc (.map #[] 0))).alloc (.cells #[.pointer (some ⟨w.heap.size, 0, none⟩), .map (some w1.heap.size)] 57)
  have hz : Hid (∃ T B M, Ending.returned (.pointer (some ⟨(w1.alloc (.map #[] 0)).heap.size, 0, none⟩)) = .returned (.pointer (some ⟨T, 0, none⟩)) ∧ TrAt ((w1.alloc (.map #[] 0)).alloc (.cells #[.pointer (some ⟨w.heap.size, 0, none⟩), .map (some w1.heap.size)] 57)) T B M .nil (fun _ => none) 0 ∧ Ext w ((w1.alloc (.map #[] 0)).alloc (.cells #[.pointer (some ⟨w.heap.size, 0, none⟩), .map (some w1.heap.size)] 57)) ∧ w.heap.size ≤ T ∧ w.heap.size ≤ B ∧ w.heap.size ≤ M) :=
    ⟨_, w.heap.size, w1.heap.size, rfl, ⟨heap_alloc_new _ _, hb.ext (y2.trans y3), m2.ext y3⟩, x1.trans (y2.trans y3), by rw [World.size_alloc]; omega, Nat.le_refl _, by omega⟩
  rw [World.size_alloc] at hz
  clear hb x1 hlt y2 m2 y3
  go_wp2
  go_ret
  exact hz.out
end Go.Proofs.Ytbgoddcpgogpdaa
