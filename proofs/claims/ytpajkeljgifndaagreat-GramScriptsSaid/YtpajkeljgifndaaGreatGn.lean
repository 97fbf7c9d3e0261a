/-
  The index in memory: a map of maps.
-/
import Derived.Test.YtpajkeljgifndaaGreatGm
namespace Go.Proofs.YtpajkeljgifndaaGreat
open Go.RowKit Go.Maps

theorem CtAt.len {w : World} {c n : Nat} {f : UInt64 → Nat} (h : CtAt w c n f) : ∃ k : Nat, k ≤ n ∧ Many f k ∧ ∀ ty, (Builtin.len_ #[57] ty #[.map (some c)]).run Tryz.prog w = .ok (.int .i64 (k : Int)) w := by
  obtain ⟨D, ho, hf⟩ := h
  obtain ⟨l, h1, h2, h3⟩ := entry_key ho
  refine ⟨Maps.size D, ho.size_le, ⟨l, h1, fun id => ?_, h3⟩, fun ty => ho.len Tryz.underlying57 ty⟩
  rw [h2, (hf id).1, decide_eq_true_eq]
theorem len_nilC (w : World) (ty : TypeId) : (Builtin.len_ #[57] ty #[.map none]).run Tryz.prog w = .ok (.int .i64 0) w := Maps.len_nil Tryz.underlying57 ty

/-! ### counts by gram -/
/-- how an element reads: as its block's number -/
def mapEl : Value → Option (DataW Unit × List MemPlace)
  | .map none => some (.nil, [])
  | .map (some b) => some (.lit (.int .u64 (b : Int)), [])
  | _ => none
def elD : Option Nat → DataW Unit
  | none => .nil
  | some b => .lit (.int .u64 (b : Int))
theorem mapEl_mk (o : Option Nat) : mapEl (.map o) = some (elD o, []) := by cases o <;> rfl
theorem mapEl_inv {v : Value} {o : Option Nat} {ps : List MemPlace} (h : mapEl v = some (elD o, ps)) : v = .map o := by
  unfold mapEl at h
  split at h
  · cases o with
    | none => rfl
    | some b => simp [elD] at h
  · cases o with
    | none => simp [elD] at h
    | some b => simp only [elD, Option.some.injEq, Prod.mk.injEq, DataW.lit.injEq, Lit.int.injEq, true_and] at h; congr 2; omega
  · cases h
/-- block m is a map of at most n entries: h says which block stands at a gram -/
def OtAt (w : World) (m n : Nat) (h : UInt32 → Option Nat) : Prop :=
  ∃ D : DataW Unit, w.ownsMap Tryz.prog 38 mapEl m n D ∧ ∀ g : UInt32, D.atKey (.int .u32 (g.toNat : Int)) .nil = elD (h g)
theorem OtAt.lt {w : World} {m n : Nat} {h : UInt32 → Option Nat} (H : OtAt w m n h) : m < w.heap.size := H.choose_spec.1.lt
theorem OtAt.mono {w : World} {m n n' : Nat} {h : UInt32 → Option Nat} (H : OtAt w m n h) (hn : n ≤ n') : OtAt w m n' h := by
  obtain ⟨D, ho, hf⟩ := H
  exact ⟨D, ho.mono hn, hf⟩
theorem OtAt.same {w w' : World} {m n : Nat} {h : UInt32 → Option Nat} (H : OtAt w m n h) (e : w'.heap[m]? = w.heap[m]?) : OtAt w' m n h := by
  obtain ⟨D, ⟨es, cl, hb, r⟩, hf⟩ := H
  exact ⟨D, ⟨es, cl, e.trans hb, r⟩, hf⟩
theorem OtAt.ext {w w' : World} {m n : Nat} {h : UInt32 → Option Nat} (H : OtAt w m n h) (x : Ext w w') : OtAt w' m n h := H.same (x.block m H.lt)
theorem OtAt.only {S : Nat → Prop} {w w' : World} {m n : Nat} {h : UInt32 → Option Nat} (H : OtAt w m n h) (x : Only S w w') (hS : ¬ S m) : OtAt w' m n h := H.same (x.block m H.lt hS)
theorem otAt_made (w : World) : OtAt (w.alloc (.map #[] 0)) w.heap.size 0 (fun _ => none) :=
  ⟨.map [], World.ownsMap_made w _ _ _, fun _ => rfl⟩
theorem OtAt.look {w : World} {m n : Nat} {h : UInt32 → Option Nat} (H : OtAt w m n h) (g : UInt32) :
    (Instr.lookup 44 (.map (some m)) (.int .u32 (g.toNat : Int)) false).run Tryz.prog w = .ok (.map (h g)) w := by
  obtain ⟨D, ho, hf⟩ := H
  obtain ⟨v, ps, hr, hv⟩ := ho.lookup law3 Tryz.underlying44 (zeroC w) (mapEl_mk none) (key3 g)
  rw [show elD none = DataW.nil from rfl, hf g] at hv
  rw [hr, mapEl_inv hv]
def upd3 (h : UInt32 → Option Nat) (k : UInt32) (z : Option Nat) : UInt32 → Option Nat := fun l => if l = k then z else h l
theorem OtAt.store {w : World} {m n : Nat} {h : UInt32 → Option Nat} (H : OtAt w m n h) (g : UInt32) (c : Nat) (hn : n < maxLen) :
    ∃ w', (Instr.mapUpdate 44 (.map (some m)) (.int .u32 (g.toNat : Int)) (.map (some c))).run Tryz.prog w = .ok () w' ∧ OtAt w' m (n + 1) (upd3 h g (some c)) ∧ Only (fun k => k = m) w w' := by
  obtain ⟨D, ho, hf⟩ := H
  obtain ⟨w', hr, ho', hg⟩ := ho.update law3 Tryz.underlying44 hn (key3 g) (mapEl_mk (some c))
  refine ⟨w', hr, ⟨_, ho', fun l => ?_⟩, ⟨hg.os, hg.tape, hg.output, hg.size, fun k hk hn => hg.block k hk (fun e => hn (by cases e; rfl))⟩⟩
  have hm : IsMap D := ho.isMap
  by_cases e : l = g
  · subst e
    rw [upd3, if_pos rfl]
    exact atKey_put_same hm (by exact trivial) _ _
  · rw [upd3, if_neg e]
    exact (atKey_put_other (ne3 e) _ _).trans (hf l)
theorem OtAt.drop {w : World} {m n : Nat} {h : UInt32 → Option Nat} (H : OtAt w m n h) (g : UInt32) (ty : TypeId) :
    ∃ w', (Builtin.delete_ #[44, 38] ty #[.map (some m), .int .u32 (g.toNat : Int)]).run Tryz.prog w = .ok (.tuple #[]) w' ∧ OtAt w' m n (upd3 h g none) ∧ Only (fun k => k = m) w w' := by
  obtain ⟨D, ho, hf⟩ := H
  obtain ⟨w', hr, ho', ht⟩ := ho.drop law3 Tryz.underlying44 (key3 g) ty
  have hg := ht.grown
  refine ⟨w', hr, ⟨_, ho', fun l => ?_⟩, ⟨hg.os, hg.tape, hg.output, hg.size, fun k hk hn => hg.block k hk (fun e => hn (by cases e; rfl))⟩⟩
  by_cases e : l = g
  · subst e
    rw [upd3, if_pos rfl]
    exact atKey_del_same _
  · rw [upd3, if_neg e]
    exact (atKey_del_other (ne3 e) _).trans (hf l)

/-! ### the index -/
/-- the counts of a gram, in the block o or nowhere -/
def CtOp (w : World) (n : Nat) : Option Nat → (UInt64 → Nat) → Prop
  | none, f => ∀ id, f id = 0
  | some c, f => CtAt w c n f
theorem CtOp.ext {w w' : World} {n : Nat} {o : Option Nat} {f : UInt64 → Nat} (h : CtOp w n o f) (x : Ext w w') : CtOp w' n o f := by
  cases o with
  | none => exact h
  | some c => exact CtAt.ext h x
theorem CtOp.mono {w : World} {n n' : Nat} {o : Option Nat} {f : UInt64 → Nat} (h : CtOp w n o f) (hn : n ≤ n') : CtOp w n' o f := by
  cases o with
  | none => exact h
  | some c => exact CtAt.mono h hn
theorem CtOp.only {S : Nat → Prop} {w w' : World} {n : Nat} {o : Option Nat} {f : UInt64 → Nat} (h : CtOp w n o f) (x : Only S w w') (hS : ∀ c, o = some c → ¬ S c) : CtOp w' n o f := by
  cases o with
  | none => exact h
  | some c => exact CtAt.only h x (hS c rfl)
theorem CtOp.look {w : World} {n : Nat} {o : Option Nat} {f : UInt64 → Nat} (h : CtOp w n o f) (id : UInt64) :
    (Instr.lookup 57 (.map o) (.int .u64 (id.toNat : Int)) false).run Tryz.prog w = .ok (.int .i64 (f id : Int)) w := by
  cases o with
  | none => rw [h id]; exact look_nilC w id
  | some c => exact CtAt.look h id
theorem CtOp.len {w : World} {n : Nat} {o : Option Nat} {f : UInt64 → Nat} (h : CtOp w n o f) : ∃ k : Nat, k ≤ n ∧ Many f k ∧ ∀ ty, (Builtin.len_ #[57] ty #[.map o]).run Tryz.prog w = .ok (.int .i64 (k : Int)) w := by
  cases o with
  | none => exact ⟨0, Nat.zero_le _, Many.zero h, fun ty => len_nilC w ty⟩
  | some c => exact CtAt.len h
/-- the index at p: its map m, the blocks of its counts h; at most n entries and counts -/
structure IxH (w : World) (p m : Nat) (h : UInt32 → Option Nat) (n : Nat) (G : UInt32 → UInt64 → Nat) : Prop where
  box : Boxed w p 46 (.map (some m))
  out : OtAt w m n h
  ins : ∀ g, CtOp w n (h g) (G g)
  inj : ∀ g g' c, h g = some c → h g' = some c → g = g'
  ne : ∀ g, h g ≠ some m
  le : ∀ g id, G g id ≤ n
/-- an index whose blocks lie in S -/
def IxAt (w : World) (S : Nat → Prop) (p n : Nat) (G : UInt32 → UInt64 → Nat) : Prop := ∃ m h, IxH w p m h n G ∧ S p ∧ S m ∧ ∀ g c, h g = some c → S c
theorem CtOp.lt {w : World} {n : Nat} {c : Nat} {f : UInt64 → Nat} (h : CtOp w n (some c) f) : c < w.heap.size := CtAt.lt h
theorem IxH.only {S : Nat → Prop} {w w' : World} {p m n : Nat} {h : UInt32 → Option Nat} {G : UInt32 → UInt64 → Nat} (H : IxH w p m h n G) (x : Only S w w') (h1 : ¬ S p) (h2 : ¬ S m) (h3 : ∀ g c, h g = some c → ¬ S c) : IxH w' p m h n G :=
  ⟨bOnly H.box x h1, H.out.only x h2, fun g => (H.ins g).only x (h3 g), H.inj, H.ne, H.le⟩
theorem IxAt.only {S S' : Nat → Prop} {w w' : World} {p n : Nat} {G : UInt32 → UInt64 → Nat} (H : IxAt w S p n G) (x : Only S' w w') (hd : ∀ k, S k → ¬ S' k) : IxAt w' S p n G := by
  obtain ⟨m, h, H, h1, h2, h3⟩ := H
  exact ⟨m, h, H.only x (hd _ h1) (hd _ h2) (fun g c e => hd _ (h3 g c e)), h1, h2, h3⟩
theorem IxAt.ext {S : Nat → Prop} {w w' : World} {p n : Nat} {G : UInt32 → UInt64 → Nat} (H : IxAt w S p n G) (x : Ext w w') : IxAt w' S p n G :=
  H.only (x.only (S := fun _ => False)) (fun _ _ h => h)
theorem IxAt.wide {S S' : Nat → Prop} {w : World} {p n : Nat} {G : UInt32 → UInt64 → Nat} (H : IxAt w S p n G) (k : ∀ x, S x → S' x) : IxAt w S' p n G := by
  obtain ⟨m, h, H, h1, h2, h3⟩ := H
  exact ⟨m, h, H, k _ h1, k _ h2, fun g c e => k _ (h3 g c e)⟩
theorem IxAt.tight {S : Nat → Prop} {w : World} {p n : Nat} {G : UInt32 → UInt64 → Nat} (H : IxAt w S p n G) : IxAt w (fun k => S k ∧ k < w.heap.size) p n G := by
  obtain ⟨m, h, H, h1, h2, h3⟩ := H
  refine ⟨m, h, H, ⟨h1, H.box.lt⟩, ⟨h2, H.out.lt⟩, fun g c e => ⟨h3 g c e, ?_⟩⟩
  have h9 := H.ins g
  rw [e] at h9
  exact h9.lt
theorem eq_nilm (o : Option Nat) (w : World) : (binOp .eql 57 (.map o) (.map none)).run Tryz.prog w = .ok (.bool o.isNone) w := by
  have hu : Tryz.prog.underlying 57 = _ := Tryz.underlying57
  have h : ∀ d : Nat, (Op.equalIn (d + 1) 57 (.map o) (.map none)).run Tryz.prog w = .ok o.isNone w := fun d => by
    cases o <;> simp [Op.equalIn, run_underlying hu]
  simp only [binOp]
  simp [Op.equal, Op.maxDepth, h 9999]
end Go.Proofs.YtpajkeljgifndaaGreat
