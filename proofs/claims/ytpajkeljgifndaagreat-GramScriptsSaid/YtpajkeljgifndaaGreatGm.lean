/-
  The maps of package gram: counts by number, and counts by gram.
-/
import Derived.Test.YtpajkeljgifndaaGreatGr
import Derived.Maps.OwnSet
import Derived.Maps.Views
namespace Go.Proofs.YtpajkeljgifndaaGreat
open Go.RowKit Go.Maps

theorem law6 : Keyed Tryz.prog 30 := int_keyed Tryz.underlying30
theorem law3 : Keyed Tryz.prog 38 := int_keyed Tryz.underlying38
theorem zeroI (w : World) : (zeroValue 3).run Tryz.prog w = .ok (.int .i64 0) w := by kernel_rfl
theorem zeroC (w : World) : (zeroValue 57).run Tryz.prog w = .ok (.map none) w := by kernel_rfl
theorem wf6 (id : UInt64) : (Lit.int .u64 (id.toNat : Int)).wf = true := by
  have := id.toNat_lt
  simp [Lit.wf, IntKind.min, IntKind.max, IntKind.signed, IntKind.bits]; omega
theorem wf3 (g : UInt32) : (Lit.int .u32 (g.toNat : Int)).wf = true := by
  have := g.toNat_lt
  simp [Lit.wf, IntKind.min, IntKind.max, IntKind.signed, IntKind.bits]; omega
theorem wfI (z : Nat) (h : z < 9223372036854775808) : (Lit.int .i64 (z : Int)).wf = true := by
  simp [Lit.wf, IntKind.min, IntKind.max, IntKind.signed, IntKind.bits]; omega
theorem key6 (id : UInt64) : keyOf Tryz.prog 30 (.int .u64 (id.toNat : Int)) = some (.int .u64 (id.toNat : Int)) := keyOf_int_mk Tryz.underlying30 (wf6 id)
theorem key3 (g : UInt32) : keyOf Tryz.prog 38 (.int .u32 (g.toNat : Int)) = some (.int .u32 (g.toNat : Int)) := keyOf_int_mk Tryz.underlying38 (wf3 g)
theorem ne6 {a b : UInt64} (h : a ≠ b) : Lit.int .u64 (a.toNat : Int) ≠ Lit.int .u64 (b.toNat : Int) := fun e => h (by
  simp only [Lit.int.injEq, true_and] at e
  exact UInt64.toNat_inj.1 (by omega))
theorem ne3 {a b : UInt32} (h : a ≠ b) : Lit.int .u32 (a.toNat : Int) ≠ Lit.int .u32 (b.toNat : Int) := fun e => h (by
  simp only [Lit.int.injEq, true_and] at e
  exact UInt32.toNat_inj.1 (by omega))

/-! ### counts by number -/
/-- block c is a map of at most n entries: f says the counts, those that are there are above 0 -/
def CtAt (w : World) (c n : Nat) (f : UInt64 → Nat) : Prop :=
  ∃ D : DataW Unit, w.ownsMap Tryz.prog 30 (plainElem Tryz.prog 3) c n D ∧ ∀ id : UInt64, Maps.has D (.int .u64 (id.toNat : Int)) = decide (0 < f id) ∧ D.atKey (.int .u64 (id.toNat : Int)) (.lit (.int .i64 0)) = .lit (.int .i64 (f id : Int))
theorem CtAt.lt {w : World} {c n : Nat} {f : UInt64 → Nat} (h : CtAt w c n f) : c < w.heap.size := h.choose_spec.1.lt
theorem CtAt.mono {w : World} {c n n' : Nat} {f : UInt64 → Nat} (h : CtAt w c n f) (hn : n ≤ n') : CtAt w c n' f := by
  obtain ⟨D, ho, hf⟩ := h
  exact ⟨D, ho.mono hn, hf⟩
theorem CtAt.same {w w' : World} {c n : Nat} {f : UInt64 → Nat} (h : CtAt w c n f) (e : w'.heap[c]? = w.heap[c]?) : CtAt w' c n f := by
  obtain ⟨D, ⟨es, cl, hb, r⟩, hf⟩ := h
  exact ⟨D, ⟨es, cl, e.trans hb, r⟩, hf⟩
theorem CtAt.ext {w w' : World} {c n : Nat} {f : UInt64 → Nat} (h : CtAt w c n f) (x : Ext w w') : CtAt w' c n f := h.same (x.block c h.lt)
theorem CtAt.only {S : Nat → Prop} {w w' : World} {c n : Nat} {f : UInt64 → Nat} (h : CtAt w c n f) (x : Only S w w') (hS : ¬ S c) : CtAt w' c n f := h.same (x.block c h.lt hS)
theorem ctAt_made (w : World) : CtAt (w.alloc (.map #[] 0)) w.heap.size 0 (fun _ => 0) :=
  ⟨.map [], World.ownsMap_made w _ _ _, fun _ => ⟨rfl, rfl⟩⟩
theorem CtAt.look {w : World} {c n : Nat} {f : UInt64 → Nat} (h : CtAt w c n f) (id : UInt64) :
    (Instr.lookup 57 (.map (some c)) (.int .u64 (id.toNat : Int)) false).run Tryz.prog w = .ok (.int .i64 (f id : Int)) w := by
  obtain ⟨D, ho, hf⟩ := h
  obtain ⟨z, hr, hc, _⟩ := ho.lookup_int law6 Tryz.underlying57 Tryz.underlying3 (zeroI w) (key6 id)
  have h3 : DataW.lit (Lit.int .i64 (f id : Int)) = DataW.lit (H := Unit) (Lit.int .i64 z) := (hf id).2.symm.trans hc
  simp only [DataW.lit.injEq, Lit.int.injEq, true_and] at h3
  rw [hr, h3]
theorem look_nilC (w : World) (id : UInt64) : (Instr.lookup 57 (.map none) (.int .u64 (id.toNat : Int)) false).run Tryz.prog w = .ok (.int .i64 0) w :=
  Maps.look_nil false law6 Tryz.underlying57 (zeroI w) (key6 id)
def upd6 (f : UInt64 → Nat) (k : UInt64) (z : Nat) : UInt64 → Nat := fun l => if l = k then z else f l
theorem CtAt.store {w : World} {c n : Nat} {f : UInt64 → Nat} (h : CtAt w c n f) (id : UInt64) (z : Nat) (hz : z < 9223372036854775808) (h0 : 0 < z) (hn : n < maxLen) :
    ∃ w', (Instr.mapUpdate 57 (.map (some c)) (.int .u64 (id.toNat : Int)) (.int .i64 (z : Int))).run Tryz.prog w = .ok () w' ∧ CtAt w' c (n + 1) (upd6 f id z) ∧ Only (fun k => k = c) w w' := by
  obtain ⟨D, ho, hf⟩ := h
  obtain ⟨w', hr, ho', hg⟩ := ho.update law6 Tryz.underlying57 hn (key6 id) (plainElem_int Tryz.underlying3 (wfI z hz))
  refine ⟨w', hr, ⟨_, ho', fun l => ?_⟩, ⟨hg.os, hg.tape, hg.output, hg.size, fun k hk hn => hg.block k hk (fun e => hn (by cases e; rfl))⟩⟩
  have hm : IsMap D := ho.isMap
  by_cases e : l = id
  · subst e
    rw [upd6, if_pos rfl]
    exact ⟨(has_put_same hm (by exact trivial) _).trans (decide_eq_true h0).symm, atKey_put_same hm (by exact trivial) _ _⟩
  · rw [upd6, if_neg e]
    obtain ⟨h1, h2⟩ := hf l
    exact ⟨(has_put_other (ne6 e) _).trans h1, (atKey_put_other (ne6 e) _ _).trans h2⟩
theorem CtAt.drop {w : World} {c n : Nat} {f : UInt64 → Nat} (h : CtAt w c n f) (id : UInt64) (ty : TypeId) :
    ∃ w', (Builtin.delete_ #[57, 30] ty #[.map (some c), .int .u64 (id.toNat : Int)]).run Tryz.prog w = .ok (.tuple #[]) w' ∧ CtAt w' c n (upd6 f id 0) ∧ Only (fun k => k = c) w w' := by
  obtain ⟨D, ho, hf⟩ := h
  obtain ⟨w', hr, ho', ht⟩ := ho.drop law6 Tryz.underlying57 (key6 id) ty
  have hg := ht.grown
  refine ⟨w', hr, ⟨_, ho', fun l => ?_⟩, ⟨hg.os, hg.tape, hg.output, hg.size, fun k hk hn => hg.block k hk (fun e => hn (by cases e; rfl))⟩⟩
  by_cases e : l = id
  · subst e
    rw [upd6, if_pos rfl]
    exact ⟨has_del_same, atKey_del_same _⟩
  · rw [upd6, if_neg e]
    obtain ⟨h1, h2⟩ := hf l
    exact ⟨(has_del_other (ne6 e)).trans h1, (atKey_del_other (ne6 e) _).trans h2⟩
theorem drop_nilC (w : World) (id : UInt64) (ty : TypeId) : (Builtin.delete_ #[57, 30] ty #[.map none, .int .u64 (id.toNat : Int)]).run Tryz.prog w = .ok (.tuple #[]) w :=
  Maps.drop_nil law6 Tryz.underlying57 (key6 id) ty
theorem mem_sorted' {l : List (Lit × DataW Unit)} {p : Lit × DataW Unit} : p ∈ l.foldr DataW.insert [] ↔ p ∈ l := (WideShapes.sorted_perm l).mem_iff
/-- the numbers that have a count, one by one: how many they are -/
def Many (f : UInt64 → Nat) (k : Nat) : Prop := ∃ l : List UInt64, l.Nodup ∧ (∀ id, id ∈ l ↔ 0 < f id) ∧ l.length = k
theorem nodup_len {α : Type} : ∀ {a b : List α}, a.Nodup → (∀ x, x ∈ a → x ∈ b) → a.length ≤ b.length
  | [], _, _, _ => Nat.zero_le _
  | x :: a, b, ha, h => by
    obtain ⟨h1, h2⟩ := List.nodup_cons.1 ha
    obtain ⟨s, t, rfl⟩ := List.append_of_mem (h x (by simp))
    have h3 := nodup_len (b := s ++ t) h2 (fun y hy => by
      have h4 := h y (by simp [hy])
      have h5 : y ≠ x := fun e => h1 (by rw [← e]; exact hy)
      simpa [h5] using h4)
    simp only [List.length_append, List.length_cons] at *
    omega
theorem Many.uniq {f : UInt64 → Nat} {k k' : Nat} (h : Many f k) (h' : Many f k') : k = k' := by
  obtain ⟨l, n1, m1, rfl⟩ := h
  obtain ⟨l', n2, m2, rfl⟩ := h'
  exact Nat.le_antisymm (nodup_len n1 (fun x hx => (m2 x).2 ((m1 x).1 hx))) (nodup_len n2 (fun x hx => (m1 x).2 ((m2 x).1 hx)))
theorem Many.zero {f : UInt64 → Nat} (h : ∀ id, f id = 0) : Many f 0 := ⟨[], List.nodup_nil, fun id => by simp [h id], rfl⟩
theorem entry_key {w : World} {c n : Nat} {D : DataW Unit} {R : Value → Option (DataW Unit × List MemPlace)} (ho : w.ownsMap Tryz.prog 30 R c n D) : ∃ l : List UInt64, l.Nodup ∧ (∀ id : UInt64, id ∈ l ↔ Maps.has D (.int .u64 (id.toNat : Int)) = true) ∧ l.length = Maps.size D := by
  obtain ⟨es, clock, hb, F, hs, rfl⟩ := ho
  have hap := Maps.fit_apart law6 F
  have hk : ∀ p ∈ es.toList.map (WideElems.rg Tryz.prog 30 R), ∃ id : UInt64, p.1 = Lit.int .u64 (id.toNat : Int) := by
    intro p hp
    obtain ⟨x, hx, rfl⟩ := List.mem_map.1 hp
    obtain ⟨y, hy⟩ := F.reads x hx
    rw [WideElems.rg_of hy]
    have h1 := WideElems.rd_key hy
    cases hkk : x.key with
    | int q a =>
      rw [hkk] at h1
      have hu := Tryz.underlying30
      simp only [keyOf, hu, mapKey] at h1
      split at h1
      · rename_i hc
        obtain ⟨rfl, hw⟩ := hc
        rw [← Option.some.inj h1]
        have hb : 0 ≤ a ∧ a ≤ 18446744073709551615 := by simpa [Lit.wf, IntKind.min, IntKind.max, IntKind.signed, IntKind.bits] using hw
        refine ⟨UInt64.ofNat a.toNat, ?_⟩
        show Lit.int .u64 a = _
        simp only [Lit.int.injEq, true_and]
        rw [UInt64.toNat_ofNat']
        omega
      · cases h1
    | _ => rw [hkk] at h1; simp [keyOf, Tryz.underlying30, mapKey] at h1
  generalize es.toList.map (WideElems.rg Tryz.prog 30 R) = E at *
  refine ⟨E.map (fun p => match p.1 with | .int _ a => UInt64.ofNat a.toNat | _ => 0), ?_, fun id => ?_, by simp [Maps.size, length_sorted]⟩
  · refine List.pairwise_map.2 (List.Pairwise.imp_of_mem ?_ hap)
    intro p q hp hq hne e
    obtain ⟨a, ha⟩ := hk p hp
    obtain ⟨b, hb⟩ := hk q hq
    apply hne
    rw [ha, hb] at e ⊢
    simp only [Int.toNat_natCast, UInt64.ofNat_toNat] at e
    rw [e]
  · rw [Maps.has_eq, List.any_eq_true]
    constructor
    · intro hm
      obtain ⟨p, hp, e⟩ := List.mem_map.1 hm
      refine ⟨p, mem_sorted'.2 hp, ?_⟩
      obtain ⟨a, ha⟩ := hk p hp
      rw [ha] at e ⊢
      simp only [Int.toNat_natCast, UInt64.ofNat_toNat] at e
      rw [e]
      exact WideAt.sameKey_self trivial
    · rintro ⟨p, hp, e⟩
      refine List.mem_map.2 ⟨p, mem_sorted'.1 hp, ?_⟩
      rw [WideAt.sameKey_eq e]
      simp
end Go.Proofs.YtpajkeljgifndaaGreat
