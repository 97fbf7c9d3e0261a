/-
  errors.As of no error, and of a fault, at a target of a fault's kind.
-/
import Derived.Test.YtfkepclgadeeeaaGreatDoorQB
import Derived.LaidEql
import Derived.Stop.Asserts
import Derived.RowKitTokens
import Derived.OrdersHeld
import Derived.StillTail
import Derived.Deep.RegionHeld3
import Derived.Test.YtfkepclgadeeeaaGreatDoorQE
namespace Go.Proofs.YtfkepclgadeeeaaGreatDoor
open Go.RowKit Go.Extern.Stop Go.Stop Go.Extern

theorem as_nil (t : Value) (w : World) : Calls Tryz.prog 13 #[.nilIface, t] w fun e w' => e = .returned (.bool false) ∧ w' = w := by
  go_enter Tryz.func13, Tryz.ntmps13
  go_wp2
  go_ret
  exact ⟨rfl, rfl⟩

theorem asV2 (t : Addr) (w : World) : (ReflectliteValue.unpack (.iface 52 (.pointer (some t)))).run Tryz.prog w
    = .ok (.agg #[.pointer (some ⟨5, 52, none⟩), .pointer (some ⟨w.heap.size, 0, none⟩), .int .u64 150]) (w.alloc (.cells #[.pointer (some t)] 52)) := by kernel_rfl
theorem asV1 (e : Addr) (w : World) : (ReflectliteValue.unpack (.iface 47 (.pointer (some e)))).run Tryz.prog w
    = .ok (.agg #[.pointer (some ⟨5, 47, none⟩), .pointer (some ⟨w.heap.size, 0, none⟩), .int .u64 150]) (w.alloc (.cells #[.pointer (some e)] 47)) := by kernel_rfl
theorem asT2 (a : Addr) (w : World) : (ReflectliteValue.methodAny (ReflectliteValue.valueError "reflectlite.Value.Type" 0) (fun t _ _ _ => ReflectliteType.toType t) #[.agg #[.pointer (some ⟨5, 52, none⟩), .pointer (some a), .int .u64 150]]).run Tryz.prog w
    = .ok (.iface 92 (.agg #[.pointer (some ⟨5, 52, none⟩)])) w := by kernel_rfl
theorem asMk (h : Value) (w : World) : (Go.method 287 92 (.agg #[h]) "Kind").run Tryz.prog w = .ok (137, h) w := by kernel_rfl
theorem asMe (h : Value) (w : World) : (Go.method 287 92 (.agg #[h]) "Elem").run Tryz.prog w = .ok (149, .agg #[h]) w := by kernel_rfl
theorem asMi (h : Value) (w : World) : (Go.method 287 92 (.agg #[h]) "Implements").run Tryz.prog w = .ok (150, .agg #[h]) w := by kernel_rfl
theorem asMa (h : Value) (w : World) : (Go.method 287 92 (.agg #[h]) "AssignableTo").run Tryz.prog w = .ok (147, .agg #[h]) w := by kernel_rfl
theorem asK2 (w : World) : ((ReflectliteType.abiMethod fun t => (fun a : Nat => Value.int IntKind.u8 (a : Int)) <$> Rtype.kind t) #[.pointer (some ⟨5, 52, none⟩)]).run Tryz.prog w = .ok (.int .u8 22) w := by kernel_rfl
theorem asK1 (w : World) : ((ReflectliteType.abiMethod fun t => (fun a : Nat => Value.int IntKind.u8 (a : Int)) <$> Rtype.kind t) #[.pointer (some ⟨5, 47, none⟩)]).run Tryz.prog w = .ok (.int .u8 22) w := by kernel_rfl
theorem asE2 (w : World) : (ReflectliteType.method ReflectliteType.elem #[.agg #[.pointer (some ⟨5, 52, none⟩)]]).run Tryz.prog w = .ok (.iface 92 (.agg #[.pointer (some ⟨5, 47, none⟩)])) w := by kernel_rfl
theorem asI1 (w : World) : (ReflectliteType.relation "Implements" ReflectliteType.implements_ #[.agg #[.pointer (some ⟨5, 47, none⟩)], .iface 92 (.agg #[.pointer (some ⟨5, 33, none⟩)])]).run Tryz.prog w = .ok (.bool true) w := by kernel_rfl
theorem asO1 (v : Value) (w : World) : (ReflectliteType.typeOf #[.iface 47 v]).run Tryz.prog w = .ok (.iface 92 (.agg #[.pointer (some ⟨5, 47, none⟩)])) w := by kernel_rfl
theorem asA1 (w : World) : (ReflectliteType.relation "AssignableTo" ReflectliteType.assignableTo #[.agg #[.pointer (some ⟨5, 47, none⟩)], .iface 92 (.agg #[.pointer (some ⟨5, 47, none⟩)])]).run Tryz.prog w = .ok (.bool true) w := by kernel_rfl
theorem asP2 (a : Addr) (w : World) : (ReflectliteValue.parts (.agg #[.pointer (some ⟨5, 52, none⟩), .pointer (some a), .int .u64 150])).run Tryz.prog w = .ok (some (52, a, 150)) w := by kernel_rfl
theorem asP1 (a : Addr) (w : World) : (ReflectliteValue.parts (.agg #[.pointer (some ⟨5, 47, none⟩), .pointer (some a), .int .u64 150])).run Tryz.prog w = .ok (some (47, a, 150)) w := by kernel_rfl
theorem asP3 (a : Addr) (w : World) : (ReflectliteValue.parts (.agg #[.pointer (some ⟨5, 47, none⟩), .pointer (some a), .int .u64 406])).run Tryz.prog w = .ok (some (47, a, 406)) w := by kernel_rfl
theorem asX2 (w : World) : (Rtype.elem? 52).run Tryz.prog w = .ok (some 47) w := by kernel_rfl
theorem asMkV (p : Addr) (w : World) : (ReflectliteValue.mk 47 p ReflectliteValue.flagAddr).run Tryz.prog w = .ok (.agg #[.pointer (some ⟨5, 47, none⟩), .pointer (some p), .int .u64 406]) w := by kernel_rfl
theorem asD1 (w : World) : (Rtype.directlyAssignable 47 47).run Tryz.prog w = .ok true w := by kernel_rfl

/-- a method of a reflected value, by its parts -/
theorem rv_method (z : Sem Value) (f : TypeId → Addr → Nat → Nat → Sem Value) (v : Value) (t : TypeId) (a : Addr) (fl : Nat) (w : World) (hp : (ReflectliteValue.parts v).run Tryz.prog w = .ok (some (t, a, fl)) w) :
    (ReflectliteValue.method z f #[v]).run Tryz.prog w = (f t a fl (fl % 32)).run Tryz.prog w := by
  have e : ReflectliteValue.method z f #[v] = (do match ← ReflectliteValue.parts v with | none => z | some (t, a, fl) => f t a fl (fl % 32)) := rfl
  rw [e]
  simp only [Sem.run_bind, hp, Result.andThen]
theorem asN2 (a p : Addr) (w : World) (ha : w.cell? a = some (.pointer (some p))) :
    (ReflectliteValue.method (ReflectliteValue.valueError "reflectlite.Value.IsNil" 0) ReflectliteValue.isNil #[.agg #[.pointer (some ⟨5, 52, none⟩), .pointer (some a), .int .u64 150]]).run Tryz.prog w = .ok (.bool false) w := by
  rw [rv_method _ _ _ _ _ _ _ (asP2 a w)]
  simp [ReflectliteValue.isNil, loadVar, isAgg, underlying, Tryz.underlying52, ha, Result.andThen]
theorem asL2 (a p : Addr) (w : World) (ha : w.cell? a = some (.pointer (some p))) :
    (ReflectliteValue.method (ReflectliteValue.valueError "reflectlite.Value.Elem" 0) ReflectliteValue.elem #[.agg #[.pointer (some ⟨5, 52, none⟩), .pointer (some a), .int .u64 150]]).run Tryz.prog w = .ok (.agg #[.pointer (some ⟨5, 47, none⟩), .pointer (some p), .int .u64 406]) w := by
  rw [rv_method _ _ _ _ _ _ _ (asP2 a w)]
  simp [ReflectliteValue.elem, loadVar, isAgg, underlying, Tryz.underlying52, ha, Result.andThen, asX2, asMkV]
theorem asS1 (ta b e : Addr) (old : Value) (w : World) (hb : w.cell? b = some (.pointer (some e))) (ht : w.cell? ta = some old) (hf : w.frozen? ta = false) :
    (ReflectliteValue.set #[.agg #[.pointer (some ⟨5, 47, none⟩), .pointer (some ta), .int .u64 406], .agg #[.pointer (some ⟨5, 47, none⟩), .pointer (some b), .int .u64 150]]).run Tryz.prog w = .ok (.tuple #[]) (w.setCell ta (.pointer (some e))) := by
  show Sem.run Tryz.prog (ReflectliteValue.parts (.agg #[.pointer (some ⟨5, 47, none⟩), .pointer (some ta), .int .u64 406]) >>= _) w = _
  have gl : ∀ (v x : Value) (h1 : (#[v, x] : Array Value).size = 2) (h2 : 1 < 2), (#[v, x] : Array Value).getLit 1 h1 h2 = x := fun _ _ _ _ => rfl
  simp only [Sem.run_bind, asP3, gl, asP1, Result.andThen]
  simp [ReflectliteValue.flagAddr, loadVar, isAgg, underlying, Tryz.underlying47, hb, Result.andThen, asD1, storeVar, Value.cells, storeCells, Addr.add]
  rw [run_store Tryz.prog w ta _ _ (by rfl)]
  simp [ht, hf]

end Go.Proofs.YtfkepclgadeeeaaGreatDoor

/-
  errors.As of a fault.
-/
namespace Go.Proofs.YtfkepclgadeeeaaGreatDoor
open Go.RowKit Go.Extern.Stop Go.Stop Go.Extern

/-- errors.As of a fault: the target, a variable that was there, is set; nothing else that was there turns -/
theorem asOnly (w : World) (t : Addr) (o1 o2 o3 o4 : Obj) (v : Value) : Only (fun g => g = t.block) w (((((w.alloc o1).alloc o2).alloc o3).alloc o4).setCell t v) :=
  (((((Only.refl (fun g => g = t.block) w).alloc o1).alloc o2).alloc o3).alloc o4).setCell (S := fun g => g = t.block) (p := t) (Or.inl rfl) v

set_option maxHeartbeats 4000000 in
theorem as_hit (e t : Addr) (old : Value) (w : World) (hg : w.cell? ⟨0, 0, none⟩ = some (.iface 92 (.agg #[.pointer (some ⟨5, 33, none⟩)]))) (ht0 : w.cell? t = some old) (hf0 : w.frozen? t = false) :
    Calls Tryz.prog 13 #[.iface 47 (.pointer (some e)), .iface 52 (.pointer (some t))] w fun ev w' => ev = .returned (.bool true) ∧ Only (fun g => g = t.block) w w' ∧ ∃ w1, Ext w w1 ∧ w' = w1.setCell t (.pointer (some e)) := by
  have h1 := @run_callFunc_extern Tryz.prog 24 _ (fun args => ReflectliteValue.unpack (args.getD 0 (.tuple #[]))) Tryz.func24 (by kernel_rfl) (by kernel_rfl) (by kernel_rfl) (by kernel_rfl)
  have h2 := @run_callFunc_extern Tryz.prog 25 _ (ReflectliteValue.methodAny (ReflectliteValue.valueError "reflectlite.Value.Type" 0) (fun t _ _ _ => ReflectliteType.toType t)) Tryz.func25 (by kernel_rfl) (by kernel_rfl) (by kernel_rfl) (by kernel_rfl)
  have h3 := @run_callFunc_extern Tryz.prog 26 _ (ReflectliteValue.method (ReflectliteValue.valueError "reflectlite.Value.IsNil" 0) ReflectliteValue.isNil) Tryz.func26 (by kernel_rfl) (by kernel_rfl) (by kernel_rfl) (by kernel_rfl)
  have h4 := @run_callFunc_extern Tryz.prog 137 _ (ReflectliteType.abiMethod fun t => do pure (.int .u8 (← Rtype.kind t))) Tryz.func137 (by kernel_rfl) (by kernel_rfl) (by kernel_rfl) (by kernel_rfl)
  have h5 := @run_callFunc_extern Tryz.prog 149 _ (ReflectliteType.method ReflectliteType.elem) Tryz.func149 (by kernel_rfl) (by kernel_rfl) (by kernel_rfl) (by kernel_rfl)
  have h6 := @run_callFunc_extern Tryz.prog 150 _ (ReflectliteType.relation "Implements" ReflectliteType.implements_) Tryz.func150 (by kernel_rfl) (by kernel_rfl) (by kernel_rfl) (by kernel_rfl)
  have h7 := @run_callFunc_extern Tryz.prog 40 _ ReflectliteType.typeOf Tryz.func40 (by kernel_rfl) (by kernel_rfl) (by kernel_rfl) (by kernel_rfl)
  have h8 := @run_callFunc_extern Tryz.prog 147 _ (ReflectliteType.relation "AssignableTo" ReflectliteType.assignableTo) Tryz.func147 (by kernel_rfl) (by kernel_rfl) (by kernel_rfl) (by kernel_rfl)
  have h9 := @run_callFunc_extern Tryz.prog 41 _ (ReflectliteValue.method (ReflectliteValue.valueError "reflectlite.Value.Elem" 0) ReflectliteValue.elem) Tryz.func41 (by kernel_rfl) (by kernel_rfl) (by kernel_rfl) (by kernel_rfl)
  have h10 := @run_callFunc_extern Tryz.prog 42 _ ReflectliteValue.set Tryz.func42 (by kernel_rfl) (by kernel_rfl) (by kernel_rfl) (by kernel_rfl)
  have k1 := asV2
  have k2 := asV1
  have k3 := asT2
  have k4 := asMk
  have k5 := asMe
  have k6 := asMi
  have k7 := asMa
  have k8 := asK2
  have k9 := asK1
  have k10 := asE2
  have k11 := asI1
  have k12 := asO1
  have k13 := asA1
  obtain ⟨o1, ho1⟩ : ∃ o1 : Obj, o1 = .cells #[.pointer (some t)] 52 := ⟨_, rfl⟩
  obtain ⟨o2, ho2⟩ : ∃ o2 : Obj, o2 = .cells #[.pointer (some ⟨5, 52, none⟩), .pointer (some ⟨w.heap.size, 0, none⟩), .int .u64 150] 67 := ⟨_, rfl⟩
  have htl : t.block < w.heap.size := World.block_lt_of_cell? w _ ht0
  have x1 := (Ext.refl w).alloc o1
  have x2 := x1.alloc o2
  have x3 := x2.alloc o2
  have x4 := x3.alloc (.cells #[.pointer (some e)] 47)
  have y1 : (w.alloc o1).cell? ⟨w.heap.size, 0, none⟩ = some (.pointer (some t)) := by rw [ho1]; exact cell_of_row _ _ 0 _ _ _ (heap_alloc_new _ _)
  have n8 := asN2 ⟨w.heap.size, 0, none⟩ t ((w.alloc o1).alloc o2) (((Ext.refl _).alloc _).cell y1)
  have el := asL2 ⟨w.heap.size, 0, none⟩ t (((w.alloc o1).alloc o2).alloc o2) ((((Ext.refl _).alloc _).alloc _).cell y1)
  have g2 : ((w.alloc o1).alloc o2).cell? ⟨0, 0, none⟩ = _ := x2.cell hg
  have zf : (((((w.alloc o1).alloc o2).alloc o2).alloc (.cells #[.pointer (some e)] 47))).frozen? t = false := by
    rw [World.frozen?_alloc_old _ _ t (by simp; omega), World.frozen?_alloc_old _ _ t (by simp; omega), World.frozen?_alloc_old _ _ t (by simp; omega), World.frozen?_alloc_old _ _ t (Nat.ne_of_lt htl)]; exact hf0
  have st := asS1 t ⟨w.heap.size + 1 + 1 + 1, 0, none⟩ e old ((((w.alloc o1).alloc o2).alloc o2).alloc (.cells #[.pointer (some e)] 47))
    (by rw [World.cell?_alloc_at _ _ _ _ (by simp)]; rfl) (x4.cell ht0) zf
  have O : Hid (Only (fun g => g = t.block) w (((((w.alloc o1).alloc o2).alloc o2).alloc (.cells #[.pointer (some e)] 47)).setCell t (.pointer (some e))) ∧ ∃ w1, Ext w w1 ∧ ((((w.alloc o1).alloc o2).alloc o2).alloc (.cells #[.pointer (some e)] 47)).setCell t (.pointer (some e)) = w1.setCell t (.pointer (some e))) := ⟨asOnly w t _ _ _ _ _, _, x4, rfl⟩
  clear x1 x2 x3 x4 y1 zf htl ht0 hf0
  subst ho1 ho2
  go_enter Tryz.func13, Tryz.ntmps13
  go_wp2
  refine wp_loop_rounds 1 ?_
  rw [rounds_succ]
  go_wp2
  go_ret
  exact ⟨rfl, O.out⟩
end Go.Proofs.YtfkepclgadeeeaaGreatDoor

/-
  A region that draws its order, whose last operation waits for all others: what an operation reads may be written by the last one.
-/
namespace Go.Proofs.YtfkepclgadeeeaaGreatDoor

section
variable {P : Program} {ops : Array Oper} {Q : Exit → Act → World → Prop} {md : Region.Mode} {S : World → Prop} {n : Nat}

/-- whatever order is picked from here on, and S holds behind every operation but the last -/
def wpAnyT (P : Program) (md : Region.Mode) (ops : Array Oper) (Q : Exit → Act → World → Prop) (S : World → Prop) (n : Nat) : Nat → Array Bool → Act → World → Prop
  | 0, listed, a, w => Region.ready md ops listed = [] ∧ Q .normal a w
  | fuel + 1, listed, a, w =>
    (Region.ready md ops listed = [] → Q .normal a w) ∧
    ∀ i ∈ Region.ready md ops listed, wpOp P ops Q i (fun a' w' => (i ≠ n → S w') ∧ wpAnyT P md ops Q S n fuel (listed.setIfInBounds i true) a' w') a w
theorem wpAny_of_last : ∀ (fuel : Nat) (listed : Array Bool) (a : Act) (w : World), wpAnyT P md ops Q S n fuel listed a w → wpAny P md ops Q fuel listed a w
  | 0, _, _, _, h => h
  | fuel + 1, _, _, _, h => ⟨h.1, fun i hi => wpOp_mono (fun a' w' h' => wpAny_of_last fuel _ a' w' h'.2) (h.2 i hi)⟩
theorem not_ready {j i : Nat} {listed : Array Bool} (h : Region.waitsFor md ops j i = true) (hi : i ∈ Region.ready md ops listed) : j ∉ Region.ready md ops listed := by
  intro hj
  obtain ⟨oj, hoj, e, he, hb, he2⟩ := Region.waitsFor_spec h
  obtain ⟨_, o2, ho2, hall⟩ := mem_ready.1 hj
  rw [hoj] at ho2
  obtain rfl := Option.some.inj ho2
  have h1 := hall e he hb
  have h0 := (mem_ready.1 hi).1
  rw [he2] at h1
  rcases Nat.lt_or_ge i listed.size with h' | h'
  · simp [h'] at h0 h1; rw [h0] at h1; cases h1
  · simp [Array.getElem?_eq_none h'] at h1
/-- an operation for which the last one waits may be taken first -/
theorem wpAnyT_first {i : Nat} {oi : Oper} {v : Value} (hi : ops[i]? = some oi) (hsel : ∀ (j : Nat) (o : Oper) cs b, ops[j]? = some o → o.op ≠ .select cs b) (hw : Region.waitsFor md ops n i = true)
    (hQ : ∀ c a w, Q (.panic c) (a.put oi.dst v) w → Q (.panic c) a w) :
    ∀ (fuel : Nat) (listed : Array Bool) (a : Act) (w : World),
      (∀ j oj, ops[j]? = some oj → j ≠ i → listed.getD j true = false → (∀ e ∈ oj.after, Region.binds md e = true → e.on ≠ i) → oi.apart ops oj = true) →
      i ∈ Region.ready md ops listed → YieldsIf P ops S oi v a → S w →
      wpAnyT P md ops Q S n fuel (listed.setIfInBounds i true) (a.put oi.dst v) w → wpAnyT P md ops Q S n (fuel + 1) listed a w := by
  intro fuel
  induction fuel with
  | zero =>
    intro listed a w _ hr hy hS H
    refine ⟨fun h => (by rw [h] at hr; cases hr), fun j hj => ?_⟩
    by_cases hji : j = i
    · subst hji; exact hy.wpOp hi hS ⟨fun _ => hS, H⟩
    · have := ready_mono hj hji
      rw [H.1] at this
      cases this
  | succ fuel ih =>
    intro listed a w hfree hr hy hS H
    refine ⟨fun h => (by rw [h] at hr; cases hr), fun j hj => ?_⟩
    by_cases hji : j = i
    · subst hji; exact hy.wpOp hi hS ⟨fun _ => hS, H⟩
    · have hjn : j ≠ n := fun e => not_ready hw hr (e ▸ hj)
      have h1 := H.2 j (ready_mono hj hji)
      obtain ⟨hjun, oj, hoj, hall⟩ := mem_ready.1 hj
      have hnot : ∀ e ∈ oj.after, Region.binds md e = true → e.on ≠ i := fun e he hb heq => by
        have h1 := hall e he hb
        have h0 := (mem_ready.1 hr).1
        rw [heq] at h1
        rcases Nat.lt_or_ge i listed.size with h' | h'
        · simp [h'] at h0 h1; rw [h0] at h1; cases h1
        · simp [Array.getElem?_eq_none h'] at h1
      have h2 := wpOp_putIf hoj (hfree j oj hoj hji hjun hnot) (fun cs b => hsel i oi cs b hi) (fun cs b => hsel j oj cs b hoj) hQ hy h1
      have hfree' : ∀ k ok, ops[k]? = some ok → k ≠ i → (listed.setIfInBounds j true).getD k true = false →
          (∀ e ∈ ok.after, Region.binds md e = true → e.on ≠ i) → oi.apart ops ok = true := fun k ok hk hki hun hno => by
        refine hfree k ok hk hki ?_ hno
        by_cases hjk : j = k
        · subst hjk; exact hjun
        · rw [getD_set_ne true hjk] at hun; exact hun
      refine wpOp_mono (fun a' w' h3 => ⟨fun _ => h3.2.1 hjn, ih (listed.setIfInBounds j true) a' w' hfree' (ready_mono hr (Ne.symm hji)) h3.1 (h3.2.1 hjn) ?_⟩) h2
      rw [Array.setIfInBounds_comm _ _ hji]
      exact h3.2.2
theorem wpAnyT_take {i : Nat} {oi : Oper} {v : Value} {fuel : Nat} {listed : Array Bool} {a : Act} {w : World} (hi : ops[i]? = some oi)
    (hs : Region.noSelect ops = true) (hf : Region.free md ops listed i = true) (hr : (Region.ready md ops listed).contains i = true) (hw : Region.waitsFor md ops n i = true)
    (hQ : ∀ c a w, Q (.panic c) (a.put oi.dst v) w → Q (.panic c) a w) (hy : YieldsIf P ops S oi v a) (hS : S w)
    (h : wpAnyT P md ops Q S n fuel (listed.setIfInBounds i true) (a.put oi.dst v) w) : wpAnyT P md ops Q S n (fuel + 1) listed a w :=
  wpAnyT_first hi (Region.noSelect_spec hs) hw hQ fuel listed a w (Region.free_spec hi hf) (by simpa using hr) hy hS h
/-- one alone may come up -/
theorem wpAnyT_one {i : Nat} {oi : Oper} {fuel : Nat} {listed : Array Bool} {a : Act} {w : World} (hi : ops[i]? = some oi) (hr : Region.ready md ops listed = [i])
    (h : if Region.wanted oi (yielded ops a.tmps) = true then oi.wp P a w (fun a' w' => (i ≠ n → S w') ∧ wpAnyT P md ops Q S n fuel (listed.setIfInBounds i true) a' w') Q else ((i ≠ n → S w) ∧ wpAnyT P md ops Q S n fuel (listed.setIfInBounds i true) (a.put oi.dst undef) w)) :
    wpAnyT P md ops Q S n (fuel + 1) listed a w := by
  refine ⟨fun h0 => absurd (hr ▸ h0) (by simp), fun j hj => ?_⟩
  rw [hr] at hj
  obtain rfl : j = i := by simpa using hj
  unfold wpOp
  simp only [hi]
  split
  · rename_i hw; rw [if_pos hw] at h; exact .inl h
  · rename_i hw; rw [if_neg hw] at h; exact h
theorem wpAnyT_done {fuel : Nat} {listed : Array Bool} {a : Act} {w : World} (hr : Region.ready md ops listed = []) (h : Q .normal a w) : wpAnyT P md ops Q S n fuel listed a w := by
  cases fuel with
  | zero => exact ⟨hr, h⟩
  | succ f => exact ⟨fun _ => h, by rw [hr]; simp⟩
theorem wp_region_last {id : Nat} {a : Act} {w : World} (S : World → Prop) (n : Nat) (hm : P.follows .mixedOrders = true)
    (h : wpAnyT P .any ops Q S n ops.size (Array.replicate ops.size false) a { w with drawn := w.drawn + 1 }) : (Code.region id ops true).wp P Q a w :=
  wp_region_any hm (wpAny_of_last _ _ _ _ h)
end
end Go.Proofs.YtfkepclgadeeeaaGreatDoor

/-
  text.Parse of a text that is one item.
-/
namespace Go.Proofs.YtfkepclgadeeeaaGreatDoor
open Go.RowKit

set_option maxRecDepth 100000 in
set_option maxHeartbeats 2000000 in
theorem Parse_ok (w : World) (s : ByteArray) (q k2 : Nat) (f : F9) (hs : s.size ≤ 1048576)
    (hW : ∀ w1, Ext w w1 → RdT w1 (w.heap.size + 1) s 0 0 → Calls Tryz.prog 12 #[.pointer (some ⟨w.heap.size + 1, 0, none⟩)] w1 (FilOut w1 (w.heap.size + 1) s q k2 f none)) :
    Calls Tryz.prog 5 #[.string s] w fun e w' => e = .returned (.tuple #[.agg f.arr, .nilIface]) ∧ Ext w w' := by
  have hsi : ¬ (1048576 : Int) < (s.size : Int) := by omega
  have x0 := (Ext.refl w).alloc (.cells #[.int .i8 0, .slice none 0 0, .string ⟨#[]⟩, .string ⟨#[]⟩, .string ⟨#[]⟩, .slice none 0 0, .string ⟨#[]⟩, .string ⟨#[]⟩, .bool false] 26)
  have f0 := fl_new w
  have x1 := (Ext.refl (w.alloc (.cells #[.int .i8 0, .slice none 0 0, .string ⟨#[]⟩, .string ⟨#[]⟩, .string ⟨#[]⟩, .slice none 0 0, .string ⟨#[]⟩, .string ⟨#[]⟩, .bool false] 26))).alloc (.cells #[.string s, .int .i64 0, .int .i64 0] 49)
  have r1 : RdT ((w.alloc (.cells #[.int .i8 0, .slice none 0 0, .string ⟨#[]⟩, .string ⟨#[]⟩, .string ⟨#[]⟩, .slice none 0 0, .string ⟨#[]⟩, .string ⟨#[]⟩, .bool false] 26)).alloc (.cells #[.string s, .int .i64 0, .int .i64 0] 49)) (w.heap.size + 1) s 0 0 := by
    have h := heap_alloc_new (w.alloc (.cells #[.int .i8 0, .slice none 0 0, .string ⟨#[]⟩, .string ⟨#[]⟩, .string ⟨#[]⟩, .slice none 0 0, .string ⟨#[]⟩, .string ⟨#[]⟩, .bool false] 26)) (.cells #[.string s, .int .i64 0, .int .i64 0] 49)
    rw [World.size_alloc] at h
    exact h
  have f1 := f0.ext x1
  have x1w := x0.trans x1
  clear f0 x1 x0
  go_enter Tryz.func5, Tryz.ntmps5
  go_wp2_with fail
  generalize (w.alloc (.cells #[.int .i8 0, .slice none 0 0, .string ⟨#[]⟩, .string ⟨#[]⟩, .string ⟨#[]⟩, .slice none 0 0, .string ⟨#[]⟩, .string ⟨#[]⟩, .bool false] 26)).alloc (.cells #[.string s, .int .i64 0, .int .i64 0] 49) = w1 at f1 r1 x1w ⊢
  go_at_call 12
  refine (hW _ x1w r1).mono ?_
  rintro _ w2 ⟨v, rfl, r2, o2, rfl⟩
  have f2 := f1.only o2 (by omega)
  have x2w : Ext w w2 := x1w.then o2 (fun g hg => by omega)
  clear f1 r1 o2 x1w hW r2
  unfold F9.arr
  have x3 := (Ext.refl w2).alloc (.cells #[.int .i8 f.kind, .slice f.ka f.kn f.kc, .string f.desc, .string f.value, .string f.start, .slice f.ma f.mn f.mc, .string f.fin, .string f.rule, .bool f.dn] 26)
  have n3 : FlT (w2.alloc (.cells #[.int .i8 f.kind, .slice f.ka f.kn f.kc, .string f.desc, .string f.value, .string f.start, .slice f.ma f.mn f.mc, .string f.fin, .string f.rule, .bool f.dn] 26)) w2.heap.size f := heap_alloc_new _ _
  have f3 := f2.ext x3
  have x3w := x2w.trans x3
  have hf2 := f2.lt
  clear f2
  go_upto_region 5 with fail
  have hsz : (w2.alloc (.cells #[.int .i8 f.kind, .slice f.ka f.kn f.kc, .string f.desc, .string f.value, .string f.start, .slice f.ma f.mn f.mc, .string f.fin, .string f.rule, .bool f.dn] 26)).heap.size = w2.heap.size + 1 := World.size_alloc _ _
  have hszh : Hid ((w2.alloc (.cells #[.int .i8 f.kind, .slice f.ka f.kn f.kc, .string f.desc, .string f.value, .string f.start, .slice f.ma f.mn f.mc, .string f.fin, .string f.rule, .bool f.dn] 26)).heap.size = w2.heap.size + 1) := hsz
  clear hsz
  generalize w2.alloc (.cells #[.int .i8 f.kind, .slice f.ka f.kn f.kc, .string f.desc, .string f.value, .string f.start, .slice f.ma f.mn f.mc, .string f.fin, .string f.rule, .bool f.dn] 26) = w3 at n3 f3 x3w hszh ⊢
  have x4 := (Ext.refl w3).alloc (.cells #[.pointer none] 47)
  have n4 := n3.ext x4
  have f4 := f3.ext x4
  have x4w := x3w.trans x4
  go_wp2_with fail
  go_at_call 13
  refine (as_nil _ _).mono ?_
  rintro _ _ ⟨rfl, rfl⟩
  clear n3 f3 x3w x4
  generalize w3.alloc (.cells #[.pointer none] 47) = w4 at n4 f4 x4w ⊢
  obtain ⟨c0, c1, c2, c3, c4, c5, c6, c7, c8, fz⟩ := n4.cells
  obtain ⟨d0, d1, d2, d3, d4, d5, d6, d7, d8, dz⟩ := f4.cells
  go_wp2
  have f6 := f4.put f
  have p6 := put_only w4 w.heap.size f
  refine bodyPost_ret (results_fl rfl _ _ w.heap.size _ rfl rfl f6) rfl ?_
  exact ⟨rfl, x4w.then p6 (fun g hg => by omega)⟩

set_option maxRecDepth 100000 in
set_option maxHeartbeats 4000000 in
theorem Parse_err (w : World) (s : ByteArray) (q k2 : Nat) (f : F9) (c a : Nat) (hs : s.size ≤ 1048576) (ha : a < s.size) (hg0 : w.cell? ⟨0, 0, none⟩ = some (.iface 92 (.agg #[.pointer (some ⟨5, 33, none⟩)])))
    (hW : ∀ w1, Ext w w1 → RdT w1 (w.heap.size + 1) s 0 0 → Calls Tryz.prog 12 #[.pointer (some ⟨w.heap.size + 1, 0, none⟩)] w1 (FilOut w1 (w.heap.size + 1) s q k2 f (some (c, a)))) :
    Calls Tryz.prog 5 #[.string s] w fun e w' => ∃ g, e = .returned (.tuple #[.agg F9.zero.arr, errV g]) ∧ w.heap.size ≤ g ∧ FtAt w' g c a (s.extract a (a + 1)) ∧ Ext w w' := by
  have hsi : ¬ (1048576 : Int) < (s.size : Int) := by omega
  have x0 := (Ext.refl w).alloc (.cells #[.int .i8 0, .slice none 0 0, .string ⟨#[]⟩, .string ⟨#[]⟩, .string ⟨#[]⟩, .slice none 0 0, .string ⟨#[]⟩, .string ⟨#[]⟩, .bool false] 26)
  have f0 := fl_new w
  have x1 := (Ext.refl (w.alloc (.cells #[.int .i8 0, .slice none 0 0, .string ⟨#[]⟩, .string ⟨#[]⟩, .string ⟨#[]⟩, .slice none 0 0, .string ⟨#[]⟩, .string ⟨#[]⟩, .bool false] 26))).alloc (.cells #[.string s, .int .i64 0, .int .i64 0] 49)
  have r1 : RdT ((w.alloc (.cells #[.int .i8 0, .slice none 0 0, .string ⟨#[]⟩, .string ⟨#[]⟩, .string ⟨#[]⟩, .slice none 0 0, .string ⟨#[]⟩, .string ⟨#[]⟩, .bool false] 26)).alloc (.cells #[.string s, .int .i64 0, .int .i64 0] 49)) (w.heap.size + 1) s 0 0 := by
    have h := heap_alloc_new (w.alloc (.cells #[.int .i8 0, .slice none 0 0, .string ⟨#[]⟩, .string ⟨#[]⟩, .string ⟨#[]⟩, .slice none 0 0, .string ⟨#[]⟩, .string ⟨#[]⟩, .bool false] 26)) (.cells #[.string s, .int .i64 0, .int .i64 0] 49)
    rw [World.size_alloc] at h
    exact h
  have f1 := f0.ext x1
  have x1w := x0.trans x1
  clear f0 x1 x0
  go_enter Tryz.func5, Tryz.ntmps5
  go_wp2_with fail
  generalize (w.alloc (.cells #[.int .i8 0, .slice none 0 0, .string ⟨#[]⟩, .string ⟨#[]⟩, .string ⟨#[]⟩, .slice none 0 0, .string ⟨#[]⟩, .string ⟨#[]⟩, .bool false] 26)).alloc (.cells #[.string s, .int .i64 0, .int .i64 0] 49) = w1 at f1 r1 x1w ⊢
  go_at_call 12
  refine (hW _ x1w r1).mono ?_
  rintro _ w2 ⟨v, rfl, r2, o2, ge, rfl, hge, hfe⟩
  have f2 := f1.only o2 (by omega)
  have x2w : Ext w w2 := x1w.then o2 (fun g hg => by omega)
  have hf1 := f1.lt
  clear f1 r1 o2 x1w hW r2
  unfold F9.arr errV
  have x3 := (Ext.refl w2).alloc (.cells #[.int .i8 f.kind, .slice f.ka f.kn f.kc, .string f.desc, .string f.value, .string f.start, .slice f.ma f.mn f.mc, .string f.fin, .string f.rule, .bool f.dn] 26)
  have f3 := f2.ext x3
  have e3 := hfe.ext x3
  have hgel : ge < w2.heap.size := (Array.getElem?_eq_some_iff.1 hfe).1
  have x3w := x2w.trans x3
  have hf2 := f2.lt
  clear f2 hfe
  go_upto_region 5 with fail
  have hszh : Hid ((w2.alloc (.cells #[.int .i8 f.kind, .slice f.ka f.kn f.kc, .string f.desc, .string f.value, .string f.start, .slice f.ma f.mn f.mc, .string f.fin, .string f.rule, .bool f.dn] 26)).heap.size = w2.heap.size + 1) := World.size_alloc _ _
  generalize w2.alloc (.cells #[.int .i8 f.kind, .slice f.ka f.kn f.kc, .string f.desc, .string f.value, .string f.start, .slice f.ma f.mn f.mc, .string f.fin, .string f.rule, .bool f.dn] 26) = w3 at f3 e3 x3w hszh ⊢
  have x4 := (Ext.refl w3).alloc (.cells #[.pointer none] 47)
  have v4 := heap_alloc_new w3 (.cells #[.pointer none] 47)
  have f4 := f3.ext x4
  have e4 := e3.ext x4
  have x4w := x3w.trans x4
  have g4 := x4w.cell hg0
  have t4 : (w3.alloc (.cells #[.pointer none] 47)).cell? ⟨w3.heap.size, 0, none⟩ = some (.pointer none) := cell_of_row _ _ 0 _ _ _ v4
  have z4 : (w3.alloc (.cells #[.pointer none] 47)).frozen? ⟨w3.heap.size, 0, none⟩ = false := by simp
  have hA := as_hit ⟨ge, 0, none⟩ ⟨w3.heap.size, 0, none⟩ _ _ g4 t4 z4
  go_wp2_with fail
  go_at_call 13
  refine hA.mono ?_
  rintro _ w5 ⟨rfl, o5, w6, x6, hw5⟩
  have hV := hszh.out
  have v5 : w5.heap[w3.heap.size]? = some (.cells #[.pointer (some ⟨ge, 0, none⟩)] 47 (0, 0)) := by
    rw [hw5]
    exact heap_setCell_at w6 w3.heap.size 0 _ _ _ _ ((x6.block w3.heap.size (by simp)).trans v4)
  have f5 := f4.only o5 (by omega)
  have e5 := e4.only o5 (by omega)
  have x5w : Ext w w5 := x4w.then o5 (fun g hg => by omega)
  clear hw5 x6 o5 hA t4 z4 g4 v4 f4 e4 x4 x4w f3 e3 x3w hg0
  have hmix : Tryz.prog.follows Departure.mixedOrders = true := by kernel_rfl
  obtain ⟨Vb, hVb⟩ : ∃ Vb, Hid (Vb = w3.heap.size) := ⟨_, rfl⟩
  rw [← hVb.out] at v5 hV ⊢
  have hVh : Hid (Vb = w2.heap.size + 1) := hV
  clear hV
  have cv : w5.cell? ⟨Vb, 0, none⟩ = some (.pointer (some ⟨ge, 0, none⟩)) := cell_of_row _ _ 0 _ _ _ v5
  have ca : w5.cell? ⟨ge, 1, none⟩ = some (.int .i64 a) := cell_of_row _ _ 1 _ _ _ e5
  have cw : w5.cell? ⟨ge, 2, none⟩ = some (.string ⟨#[]⟩) := cell_of_row _ _ 2 _ _ _ e5
  have fe : ∀ j, w5.frozen? ⟨ge, j, none⟩ = false := fun j => by simp [World.frozen?, show w5.heap[ge]? = _ from e5]
  obtain ⟨a1, ha1⟩ : ∃ a1, Hid (a1 = a + 1) := ⟨_, rfl⟩
  have hai1 : (a : Int) + 1 = (a1 : Int) := by have := ha1.out; omega
  have hai3 : (a1 : Int) ≤ (s.size : Int) := by have := ha1.out; omega
  have hai4 : (a : Int) ≤ (a1 : Int) := by omega
  have hai5 : (0 : Int) ≤ (a : Int) := by omega
  have hNs : ¬ s.size < a1 := by omega
  have hwr2 : IntKind.i64.wrap (a1 : Int) = (a1 : Int) := by rw [IntKind.wrap_i64]; omega
  have hwr : IntKind.i64.wrap ((a : Int) + 1) = (a1 : Int) := by rw [IntKind.wrap_i64]; omega
  go_wp2_with fail
  refine wp_region_last (fun w' => w'.cell? ⟨Vb, 0, none⟩ = some (.pointer (some ⟨ge, 0, none⟩)) ∧ w'.cell? ⟨ge, 1, none⟩ = some (.int .i64 a)) 17 hmix ?_
  change wpAnyT _ _ _ _ _ _ 18 _ _ w5.drew
  have x5 : Ext w5 w5.drew := (Ext.refl w5).drew
  have hSw : w5.drew.cell? ⟨Vb, 0, none⟩ = some (.pointer (some ⟨ge, 0, none⟩)) ∧ w5.drew.cell? ⟨ge, 1, none⟩ = some (.int .i64 a) := ⟨x5.cell cv, x5.cell ca⟩
  have cw6 := x5.cell cw
  have fe6 : ∀ j, w5.drew.frozen? ⟨ge, j, none⟩ = false := fe
  have f6 := f5.ext x5
  have e6 := e5.ext x5
  have v6 : w5.drew.heap[Vb]? = some (.cells #[.pointer (some ⟨ge, 0, none⟩)] 47 (0, 0)) := v5
  have x6w := x5w.trans x5
  clear cv ca cw fe f5 e5 v5 x5w x5
  generalize w5.drew = w6 at hSw cw6 fe6 f6 e6 v6 x6w ⊢
  refine wpAnyT_take (i := 0) (v := ?_) rfl (by kernel_rfl) (by kernel_rfl) (by kernel_rfl) (by kernel_rfl) (fun _ _ _ h => h) (Or.inl ⟨by rfl, ?hy0⟩) hSw ?_
  case hy0 => (intro w' hSw'; obtain ⟨k0, k1⟩ := hSw'; go_simp; try with_reducible rfl)
  dsimp only [Act.put, List.getElem_toArray, List.getElem_cons_zero, List.getElem_cons_succ]
  simp only [List.setIfInBounds_toArray, List.set_cons_zero, List.set_cons_succ]
  refine wpAnyT_take (i := 1) (v := ?_) rfl (by kernel_rfl) (by kernel_rfl) (by kernel_rfl) (by kernel_rfl) (fun _ _ _ h => h) (Or.inl ⟨by rfl, ?hy1⟩) hSw ?_
  case hy1 => (intro w' hSw'; obtain ⟨k0, k1⟩ := hSw'; go_simp; try with_reducible rfl)
  dsimp only [Act.put, List.getElem_toArray, List.getElem_cons_zero, List.getElem_cons_succ]
  simp only [List.setIfInBounds_toArray, List.set_cons_zero, List.set_cons_succ]
  refine wpAnyT_take (i := 2) (v := ?_) rfl (by kernel_rfl) (by kernel_rfl) (by kernel_rfl) (by kernel_rfl) (fun _ _ _ h => h) (Or.inl ⟨by rfl, ?hy2⟩) hSw ?_
  case hy2 => (intro w' hSw'; obtain ⟨k0, k1⟩ := hSw'; go_simp; try with_reducible rfl)
  dsimp only [Act.put, List.getElem_toArray, List.getElem_cons_zero, List.getElem_cons_succ]
  simp only [List.setIfInBounds_toArray, List.set_cons_zero, List.set_cons_succ]
  refine wpAnyT_take (i := 3) (v := ?_) rfl (by kernel_rfl) (by kernel_rfl) (by kernel_rfl) (by kernel_rfl) (fun _ _ _ h => h) (Or.inl ⟨by rfl, ?hy3⟩) hSw ?_
  case hy3 => (intro w' hSw'; obtain ⟨k0, k1⟩ := hSw'; go_simp; try with_reducible rfl)
  dsimp only [Act.put, List.getElem_toArray, List.getElem_cons_zero, List.getElem_cons_succ]
  simp only [List.setIfInBounds_toArray, List.set_cons_zero, List.set_cons_succ]
  refine wpAnyT_take (i := 4) (v := ?_) rfl (by kernel_rfl) (by kernel_rfl) (by kernel_rfl) (by kernel_rfl) (fun _ _ _ h => h) (Or.inl ⟨by rfl, ?hy4⟩) hSw ?_
  case hy4 => (intro w' hSw'; obtain ⟨k0, k1⟩ := hSw'; go_simp; try with_reducible rfl)
  dsimp only [Act.put, List.getElem_toArray, List.getElem_cons_zero, List.getElem_cons_succ]
  simp only [List.setIfInBounds_toArray, List.set_cons_zero, List.set_cons_succ]
  refine wpAnyT_take (i := 5) (v := ?_) rfl (by kernel_rfl) (by kernel_rfl) (by kernel_rfl) (by kernel_rfl) (fun _ _ _ h => h) (Or.inl ⟨by rfl, ?hy5⟩) hSw ?_
  case hy5 => (intro w' hSw'; obtain ⟨k0, k1⟩ := hSw'; go_simp; try with_reducible rfl)
  dsimp only [Act.put, List.getElem_toArray, List.getElem_cons_zero, List.getElem_cons_succ]
  simp only [List.setIfInBounds_toArray, List.set_cons_zero, List.set_cons_succ]
  refine wpAnyT_take (i := 6) (v := ?_) rfl (by kernel_rfl) (by kernel_rfl) (by kernel_rfl) (by kernel_rfl) (fun _ _ _ h => h) (Or.inl ⟨by rfl, ?hy6⟩) hSw ?_
  case hy6 => (intro w' hSw'; obtain ⟨k0, k1⟩ := hSw'; go_simp; try with_reducible rfl)
  dsimp only [Act.put, List.getElem_toArray, List.getElem_cons_zero, List.getElem_cons_succ]
  simp only [List.setIfInBounds_toArray, List.set_cons_zero, List.set_cons_succ]
  refine wpAnyT_take (i := 7) (v := ?_) rfl (by kernel_rfl) (by kernel_rfl) (by kernel_rfl) (by kernel_rfl) (fun _ _ _ h => h) (Or.inl ⟨by rfl, ?hy7⟩) hSw ?_
  case hy7 => (intro w' hSw'; obtain ⟨k0, k1⟩ := hSw'; go_simp; try with_reducible rfl)
  dsimp only [Act.put, List.getElem_toArray, List.getElem_cons_zero, List.getElem_cons_succ]
  simp only [List.setIfInBounds_toArray, List.set_cons_zero, List.set_cons_succ]
  refine wpAnyT_take (i := 8) (v := ?_) rfl (by kernel_rfl) (by kernel_rfl) (by kernel_rfl) (by kernel_rfl) (fun _ _ _ h => h) (Or.inl ⟨by rfl, ?hy8⟩) hSw ?_
  case hy8 => (intro w' hSw'; obtain ⟨k0, k1⟩ := hSw'; go_simp; try with_reducible rfl)
  dsimp only [Act.put, List.getElem_toArray, List.getElem_cons_zero, List.getElem_cons_succ]
  simp only [List.setIfInBounds_toArray, List.set_cons_zero, List.set_cons_succ]
  refine wpAnyT_take (i := 9) (v := ?_) rfl (by kernel_rfl) (by kernel_rfl) (by kernel_rfl) (by kernel_rfl) (fun _ _ _ h => h) (Or.inl ⟨by rfl, ?hy9⟩) hSw ?_
  case hy9 => (intro w' hSw'; obtain ⟨k0, k1⟩ := hSw'; go_simp; try with_reducible rfl)
  dsimp only [Act.put, List.getElem_toArray, List.getElem_cons_zero, List.getElem_cons_succ]
  simp only [List.setIfInBounds_toArray, List.set_cons_zero, List.set_cons_succ]
  refine wpAnyT_take (i := 10) (v := ?_) rfl (by kernel_rfl) (by kernel_rfl) (by kernel_rfl) (by kernel_rfl) (fun _ _ _ h => h) (Or.inl ⟨by rfl, ?hy10⟩) hSw ?_
  case hy10 => (intro w' hSw'; obtain ⟨k0, k1⟩ := hSw'; go_simp; try with_reducible rfl)
  dsimp only [Act.put, List.getElem_toArray, List.getElem_cons_zero, List.getElem_cons_succ]
  simp only [List.setIfInBounds_toArray, List.set_cons_zero, List.set_cons_succ]
  refine wpAnyT_take (i := 11) (v := ?_) rfl (by kernel_rfl) (by kernel_rfl) (by kernel_rfl) (by kernel_rfl) (fun _ _ _ h => h) (Or.inl ⟨by rfl, ?hy11⟩) hSw ?_
  case hy11 => (intro w' hSw'; obtain ⟨k0, k1⟩ := hSw'; go_simp; try with_reducible rfl)
  dsimp only [Act.put, List.getElem_toArray, List.getElem_cons_zero, List.getElem_cons_succ]
  simp only [List.setIfInBounds_toArray, List.set_cons_zero, List.set_cons_succ]
  refine wpAnyT_take (i := 12) (v := ?_) rfl (by kernel_rfl) (by kernel_rfl) (by kernel_rfl) (by kernel_rfl) (fun _ _ _ h => h) (Or.inl ⟨by rfl, ?hy12⟩) hSw ?_
  case hy12 => (intro w' hSw'; obtain ⟨k0, k1⟩ := hSw'; go_simp; try with_reducible rfl)
  dsimp only [Act.put, List.getElem_toArray, List.getElem_cons_zero, List.getElem_cons_succ]
  simp only [List.setIfInBounds_toArray, List.set_cons_zero, List.set_cons_succ]
  refine wpAnyT_take (i := 13) (v := ?_) rfl (by kernel_rfl) (by kernel_rfl) (by kernel_rfl) (by kernel_rfl) (fun _ _ _ h => h) (Or.inl ⟨by rfl, ?hy13⟩) hSw ?_
  case hy13 => (intro w' hSw'; obtain ⟨k0, k1⟩ := hSw'; go_simp; try with_reducible rfl)
  dsimp only [Act.put, List.getElem_toArray, List.getElem_cons_zero, List.getElem_cons_succ]
  simp only [List.setIfInBounds_toArray, List.set_cons_zero, List.set_cons_succ]
  refine wpAnyT_take (i := 14) (v := ?_) rfl (by kernel_rfl) (by kernel_rfl) (by kernel_rfl) (by kernel_rfl) (fun _ _ _ h => h) (Or.inl ⟨by rfl, ?hy14⟩) hSw ?_
  case hy14 => (intro w' hSw'; obtain ⟨k0, k1⟩ := hSw'; go_simp; try with_reducible rfl)
  dsimp only [Act.put, List.getElem_toArray, List.getElem_cons_zero, List.getElem_cons_succ]
  simp only [List.setIfInBounds_toArray, List.set_cons_zero, List.set_cons_succ]
  refine wpAnyT_one (i := 15) rfl (by kernel_rfl) ?_
  rw [if_pos (by rfl)]
  go_simp
  try refine ⟨hSw, ?_⟩
  refine wpAnyT_one (i := 16) rfl (by kernel_rfl) ?_
  rw [if_pos (by rfl)]
  go_simp
  try refine ⟨hSw, ?_⟩
  refine wpAnyT_one (i := 17) rfl (by kernel_rfl) ?_
  rw [if_pos (by rfl)]
  go_simp
  refine wpAnyT_done (by kernel_rfl) ?_
  have o7 := setOnly w6 ge 2 (.string (s.extract a a1))
  have e7 : FtAt (w6.setCell ⟨ge, 2, none⟩ (.string (s.extract a a1))) ge c a (s.extract a a1) := heap_setCell_at w6 ge 2 _ _ _ _ e6
  have f7 := f6.only o7 (by omega)
  have hVn : Vb ≠ ge := by have := hVh.out; omega
  have v7 := (o7.block Vb (Array.getElem?_eq_some_iff.1 v6).1 hVn).trans v6
  have x7w : Ext w (w6.setCell ⟨ge, 2, none⟩ (.string (s.extract a a1))) := x6w.then o7 (fun g hg => by omega)
  clear e6 f6 v6 x6w o7 hSw cw6 fe6
  generalize w6.setCell ⟨ge, 2, none⟩ (.string (s.extract a a1)) = w7 at e7 f7 v7 x7w ⊢
  have cv7 : w7.cell? ⟨Vb, 0, none⟩ = some (.pointer (some ⟨ge, 0, none⟩)) := cell_of_row _ _ 0 _ _ _ v7
  obtain ⟨d0, d1, d2, d3, d4, d5, d6, d7, d8, dz⟩ := f7.cells
  simp only [F9.zero] at d0 d1 d2 d3 d4 d5 d6 d7 d8
  have hVF : Vb ≠ w.heap.size := by have := hVh.out; omega
  have p8 := put_only w7 w.heap.size F9.zero
  have v8 := (p8.block Vb (Array.getElem?_eq_some_iff.1 v7).1 hVF).trans v7
  have cv8 : (putF w7 w.heap.size F9.zero).cell? ⟨Vb, 0, none⟩ = some (.pointer (some ⟨ge, 0, none⟩)) := cell_of_row _ _ 0 _ _ _ v8
  simp only [putF, F9.zero] at cv8
  have cv9 := cv8
  rw [← World.cell?_drew] at cv9
  go_wp2_with fail
  go_region_held3 (fun W => W.cell? ⟨Vb, 0, none⟩ = some (.pointer (some ⟨ge, 0, none⟩))) (first | go_keep | exact cv8 | exact cv9) ((fail))
  have f9 := (f7.put F9.zero).drew
  have p9 := p8.drew
  have x9w := x7w.then p9 (fun g hg => by omega)
  have e9 := e7.only p9 (by omega)
  simp only [putF, F9.zero] at f9 x9w e9
  clear p8 v8 cv8 cv9 p9 d0 d1 d2 d3 d4 d5 d6 d7 d8 dz f7 v7 cv7 e7 x7w
  generalize World.drew _ = w9 at f9 x9w e9 ⊢
  go_wp2
  refine bodyPost_ret (results_fl rfl _ _ w.heap.size _ rfl rfl f9) rfl ?_
  rw [ha1.out] at e9
  exact ⟨ge, rfl, by omega, e9, x9w⟩
end Go.Proofs.YtfkepclgadeeeaaGreatDoor

/-
  rosterlaw10.told of a fault; text.Parse at the law's two texts.
-/
namespace Go.Proofs.YtfkepclgadeeeaaGreatDoor
open Go.RowKit

/-- what the variable errors.errorType holds -/
def ErrT (w : World) : Prop := w.cell? ⟨0, 0, none⟩ = some (.iface 92 (.agg #[.pointer (some ⟨5, 33, none⟩)]))
theorem ErrT.ext {w w' : World} (h : ErrT w) (x : Ext w w') : ErrT w' := x.cell h
theorem FtAt.cells {w : World} {g c p : Nat} {wd : ByteArray} (h : FtAt w g c p wd) : w.cell? ⟨g, 0, none⟩ = some (.int .i64 c) ∧ w.cell? ⟨g, 1, none⟩ = some (.int .i64 p) ∧ w.cell? ⟨g, 2, none⟩ = some (.string wd) ∧ (∀ j, w.frozen? ⟨g, j, none⟩ = false) :=
  ⟨cell_of_row _ _ 0 _ _ _ h, cell_of_row _ _ 1 _ _ _ h, cell_of_row _ _ 2 _ _ _ h, fun j => by simp [World.frozen?, show w.heap[g]? = _ from h]⟩
theorem results_ft {fn : Func} {pp u : Tmp} {ty : TypeId} (h : fn.results = #[.cell pp ty, .tmp u]) (tmps : Array Value) (w : World) (g c p : Nat) (wd : ByteArray) (hty : ty = 29) (hp : tmps.getD pp undef = .pointer (some ⟨g, 0, none⟩)) (hc : FtAt w g c p wd) : (results fn tmps).run Tryz.prog w = .ok (.tuple #[.agg #[.int .i64 c, .int .i64 p, .string wd], tmps.getD u undef]) w := by
  subst hty
  have hl := run_loadCells_list (P := Tryz.prog) w ⟨g, 0, none⟩ [.int .i64 c, .int .i64 p, .string wd] (by
    intro j v hv
    rw [Addr.add_lit, Nat.zero_add, cell_of_row _ _ j _ _ _ hc]
    simpa using hv)
  have hl3 : (loadCells ⟨g, 0, none⟩ 3).run Tryz.prog w = .ok #[.int .i64 c, .int .i64 p, .string wd] w := hl
  have hag := Tryz.isAgg29
  have hsz : ∀ w, (sizeOf 29).run Tryz.prog w = .ok 3 w := Tryz.sizeOf29
  rw [results_cell_tmp h, hp]
  simp [asAddr, loadVar, Sem.run_bind, hag, hsz, hl3, Result.andThen]

set_option maxRecDepth 100000 in
set_option maxHeartbeats 2000000 in
theorem told_hit (w : World) (ge c a : Nat) (wd : ByteArray) (he : ErrT w) (hf : FtAt w ge c a wd) (hc : c ≠ 0) :
    Calls Tryz.prog 6 #[errV ge] w fun e w' => e = .returned (.tuple #[.agg #[.int .i64 c, .int .i64 a, .string wd], .bool true]) ∧ Ext w w' := by
  have hci : ((c : Int) == 0) = false := by simp; omega
  have hgl : ge < w.heap.size := (Array.getElem?_eq_some_iff.1 hf).1
  have z0 := heap_alloc_new w (.cells #[.int .i64 0, .int .i64 0, .string ⟨#[]⟩] 29)
  have x0 := (Ext.refl w).alloc (.cells #[.int .i64 0, .int .i64 0, .string ⟨#[]⟩] 29)
  have v1 := heap_alloc_new (w.alloc (.cells #[.int .i64 0, .int .i64 0, .string ⟨#[]⟩] 29)) (.cells #[.pointer none] 47)
  have x1 := (Ext.refl (w.alloc (.cells #[.int .i64 0, .int .i64 0, .string ⟨#[]⟩] 29))).alloc (.cells #[.pointer none] 47)
  have z1 : FtAt ((w.alloc (.cells #[.int .i64 0, .int .i64 0, .string ⟨#[]⟩] 29)).alloc (.cells #[.pointer none] 47)) w.heap.size 0 0 ⟨#[]⟩ := FtAt.ext z0 x1
  rw [World.size_alloc] at v1
  have x1w := x0.trans x1
  have e1 := hf.ext x1w
  have g1 := he.ext x1w
  have t1 : ((w.alloc (.cells #[.int .i64 0, .int .i64 0, .string ⟨#[]⟩] 29)).alloc (.cells #[.pointer none] 47)).cell? ⟨w.heap.size + 1, 0, none⟩ = some (.pointer none) := cell_of_row _ _ 0 _ _ _ v1
  have f1 : ((w.alloc (.cells #[.int .i64 0, .int .i64 0, .string ⟨#[]⟩] 29)).alloc (.cells #[.pointer none] 47)).frozen? ⟨w.heap.size + 1, 0, none⟩ = false := by simp
  have hA := as_hit ⟨ge, 0, none⟩ ⟨w.heap.size + 1, 0, none⟩ _ _ g1 t1 f1
  clear x0 x1 z0 he hf hc t1 f1 g1
  unfold errV
  go_enter Tryz.func6, Tryz.ntmps6
  go_wp2_with fail
  go_at_call 13
  refine hA.mono ?_
  rintro _ w3 ⟨rfl, o3, w2, x2, hw3⟩
  have v3 : w3.heap[w.heap.size + 1]? = some (.cells #[.pointer (some ⟨ge, 0, none⟩)] 47 (0, 0)) := by
    rw [hw3]
    exact heap_setCell_at w2 (w.heap.size + 1) 0 _ _ _ _ ((x2.block (w.heap.size + 1) (Array.getElem?_eq_some_iff.1 v1).1).trans v1)
  have z3 := z1.only o3 (by omega)
  have e3 := e1.only o3 (by omega)
  have x3w : Ext w w3 := x1w.then o3 (fun g hg => by omega)
  clear hw3 x2 o3 hA v1 z1 e1 x1w
  have cv : w3.cell? ⟨w.heap.size + 1, 0, none⟩ = some (.pointer (some ⟨ge, 0, none⟩)) := cell_of_row _ _ 0 _ _ _ v3
  obtain ⟨a0, a1, a2, az⟩ := e3.cells
  obtain ⟨b0, b1, b2, bz⟩ := z3.cells
  go_wp2
  have z4 : FtAt (w3.setCell ⟨w.heap.size, 0, none⟩ (.int .i64 c)) w.heap.size c 0 ⟨#[]⟩ := heap_setCell_at w3 w.heap.size 0 _ _ _ _ z3
  have z5 : FtAt ((w3.setCell ⟨w.heap.size, 0, none⟩ (.int .i64 c)).setCell ⟨w.heap.size, 1, none⟩ (.int .i64 a)) w.heap.size c a ⟨#[]⟩ := heap_setCell_at _ w.heap.size 1 _ _ _ _ z4
  have z6 : FtAt (((w3.setCell ⟨w.heap.size, 0, none⟩ (.int .i64 c)).setCell ⟨w.heap.size, 1, none⟩ (.int .i64 a)).setCell ⟨w.heap.size, 2, none⟩ (.string wd)) w.heap.size c a wd := heap_setCell_at _ w.heap.size 2 _ _ _ _ z5
  refine bodyPost_ret (results_ft rfl _ _ w.heap.size c a wd rfl rfl z6) rfl ?_
  exact ⟨rfl, ((x3w.setNew (p := ⟨w.heap.size, 0, none⟩) (Nat.le_refl _) _).setNew (p := ⟨w.heap.size, 1, none⟩) (Nat.le_refl _) _).setNew (p := ⟨w.heap.size, 2, none⟩) (Nat.le_refl _) _⟩

def T1 : ByteArray := ⟨#[40, 99, 110, 61, 97, 92, 50, 97, 41]⟩
def T2 : ByteArray := ⟨#[40, 97, 61, 98, 40, 99, 41]⟩
theorem t1_d : descP ((byt T1).drop 1) = (2, true) := by decide
theorem t1_e : valE T1 4 true = 0 := by decide
theorem t1_n : valN T1 4 true = 4 := by decide
theorem t1_s : valS T1 4 true = ⟨#[97, 42]⟩ := by decide
theorem t2_d : descP ((byt T2).drop 1) = (1, true) := by decide
theorem t2_e : valE T2 3 true = 12 := by decide
theorem t2_n : valN T2 3 true = 1 := by decide

theorem Parse_T1 (w : World) (g off cap : Nat) (ht : Tab w g off cap) :
    Calls Tryz.prog 5 #[.string T1] w fun e w' => e = .returned (.tuple #[.agg #[.int .i8 3, .slice none 0 0, .string ⟨#[99, 110]⟩, .string ⟨#[97, 42]⟩, .string ⟨#[]⟩, .slice none 0 0, .string ⟨#[]⟩, .string ⟨#[]⟩, .bool false], .nilIface]) ∧ Ext w w' := by
  have hgl : g < w.heap.size := World.block_lt_of_cell? w _ (ht.c0 0 (by omega))
  have hGl : 1 < w.heap.size := World.block_lt_of_cell? w _ ht.var
  refine (Parse_ok w T1 9 1 { F9.zero with kind := 3, desc := T1.extract 1 3, value := valS T1 4 true } (by decide) ?_).mono ?_
  · intro w1 x1 r1
    refine whole_ok w1 (w.heap.size + 1) T1 0 0 1 9 _ r1 rfl ?_
    intro w2 r2 o2
    refine filter_ok w2 (w.heap.size + 1) T1 0 0 1 r2 (by decide) (by decide) (by decide) (by decide) (by decide) 8 _ ?_ (by decide)
    intro w3 r3 o3
    refine body_item w3 (w.heap.size + 1) T1 1 1 _ r3 (by decide) (by decide) (by decide) (by decide) 8 _ none ?_
    intro w4 r4 o4
    have t4 : Tab w4 g off cap := (ht.ext x1).only ((o2.then o3).then o4) (by omega) (by omega)
    have h := item_eq w4 (w.heap.size + 1) T1 1 1 r4 (by decide) (by decide) g off cap t4 (by omega) (by omega) 2 (by decide) t1_d (by decide) (by decide) t1_e (by rw [t1_s]; decide) (by rw [t1_n]; decide)
    rw [t1_n] at h
    exact h
  · rintro e w' ⟨rfl, x⟩
    rw [t1_s]
    exact ⟨rfl, x⟩
theorem Parse_T2 (w : World) (g off cap : Nat) (ht : Tab w g off cap) (he : ErrT w) :
    Calls Tryz.prog 5 #[.string T2] w fun e w' => ∃ g, e = .returned (.tuple #[.agg #[.int .i8 0, .slice none 0 0, .string ⟨#[]⟩, .string ⟨#[]⟩, .string ⟨#[]⟩, .slice none 0 0, .string ⟨#[]⟩, .string ⟨#[]⟩, .bool false], errV g]) ∧ w.heap.size ≤ g ∧ FtAt w' g 12 4 ⟨#[40]⟩ ∧ Ext w w' := by
  have hgl : g < w.heap.size := World.block_lt_of_cell? w _ (ht.c0 0 (by omega))
  have hGl : 1 < w.heap.size := World.block_lt_of_cell? w _ ht.var
  refine (Parse_err w T2 4 1 { F9.zero with desc := T2.extract 1 2 } 12 4 (by decide) (by decide) he ?_).mono ?_
  · intro w1 x1 r1
    refine whole_err w1 (w.heap.size + 1) T2 0 0 1 4 _ (12, 4) r1 ?_
    intro w2 r2 o2
    refine filter_err w2 (w.heap.size + 1) T2 0 0 1 r2 (by decide) (by decide) (by decide) (by decide) (by decide) 4 _ (12, 4) ?_
    intro w3 r3 o3
    refine body_item w3 (w.heap.size + 1) T2 1 1 _ r3 (by decide) (by decide) (by decide) (by decide) 4 _ (some (12, 4)) ?_
    intro w4 r4 o4
    have t4 : Tab w4 g off cap := (ht.ext x1).only ((o2.then o3).then o4) (by omega) (by omega)
    have h := item_err w4 (w.heap.size + 1) T2 1 1 r4 (by decide) (by decide) g off cap t4 (by omega) (by omega) 1 (by decide) t2_d (by decide) (by decide) (by rw [t2_e]; decide)
    rw [t2_n, t2_e] at h
    exact h
  · rintro e w' ⟨g, rfl, h1, h2, x⟩
    exact ⟨g, rfl, h1, h2, x⟩
end Go.Proofs.YtfkepclgadeeeaaGreatDoor
