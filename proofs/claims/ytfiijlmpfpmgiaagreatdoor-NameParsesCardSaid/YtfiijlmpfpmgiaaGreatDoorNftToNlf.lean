/-
  A fault in memory.
-/
import Derived.Test.YtfiijlmpfpmgiaaGreatDoorNmnToOrd
import Derived.LaidEql
import Derived.Stop.Asserts
import Derived.RowKitTokens
namespace Go.Proofs.YtfiijlmpfpmgiaaGreatDoor
open Go.RowKit

def FtAt (w : World) (g : Nat) (c p : Nat) (wd : ByteArray) : Prop := w.heap[g]? = some (.cells #[.int .i64 c, .int .i64 p, .string wd] 27 (0, 0))
def errV (g : Nat) : Value := .iface 50 (.pointer (some ⟨g, 0, none⟩))
theorem FtAt.ext {w w' : World} {g c p : Nat} {wd : ByteArray} (h : FtAt w g c p wd) (x : Ext w w') : FtAt w' g c p wd := (x.block g (Array.getElem?_eq_some_iff.1 h).1).trans h
theorem FtAt.drewN {w : World} {g c p : Nat} {wd : ByteArray} (h : FtAt w g c p wd) (n : Nat) : FtAt (w.drewN n) g c p wd := h
theorem FtAt.only {w w' : World} {S : Nat → Prop} {g c p : Nat} {wd : ByteArray} (h : FtAt w g c p wd) (x : Only S w w') (hg : ¬ S g) : FtAt w' g c p wd := (x.block g (Array.getElem?_eq_some_iff.1 h).1 hg).trans h
end Go.Proofs.YtfiijlmpfpmgiaaGreatDoor

/-
  errors.As of no error, and of a fault, at a target of a fault's kind.
-/
namespace Go.Proofs.YtfiijlmpfpmgiaaGreatDoor
open Go.RowKit Go.Extern.Stop Go.Stop Go.Extern

theorem as_nil (t : Value) (w : World) : Calls Tryz.prog 14 #[.nilIface, t] w fun e w' => e = .returned (.bool false) ∧ w' = w := by
  go_enter Tryz.func14, Tryz.ntmps14
  go_wp2
  go_ret
  exact ⟨rfl, rfl⟩

theorem asV2 (t : Addr) (w : World) : (ReflectliteValue.unpack (.iface 55 (.pointer (some t)))).run Tryz.prog w
    = .ok (.agg #[.pointer (some ⟨10, 55, none⟩), .pointer (some ⟨w.heap.size, 0, none⟩), .int .u64 150]) (w.alloc (.cells #[.pointer (some t)] 55)) := by kernel_rfl
theorem asV1 (e : Addr) (w : World) : (ReflectliteValue.unpack (.iface 50 (.pointer (some e)))).run Tryz.prog w
    = .ok (.agg #[.pointer (some ⟨10, 50, none⟩), .pointer (some ⟨w.heap.size, 0, none⟩), .int .u64 150]) (w.alloc (.cells #[.pointer (some e)] 50)) := by kernel_rfl
theorem asT2 (a : Addr) (w : World) : (ReflectliteValue.methodAny (ReflectliteValue.valueError "reflectlite.Value.Type" 0) (fun t _ _ _ => ReflectliteType.toType t) #[.agg #[.pointer (some ⟨10, 55, none⟩), .pointer (some a), .int .u64 150]]).run Tryz.prog w
    = .ok (.iface 107 (.agg #[.pointer (some ⟨10, 55, none⟩)])) w := by kernel_rfl
theorem asMk (h : Value) (w : World) : (Go.method 441 107 (.agg #[h]) "Kind").run Tryz.prog w = .ok (272, h) w := by kernel_rfl
theorem asMe (h : Value) (w : World) : (Go.method 441 107 (.agg #[h]) "Elem").run Tryz.prog w = .ok (283, .agg #[h]) w := by kernel_rfl
theorem asMi (h : Value) (w : World) : (Go.method 441 107 (.agg #[h]) "Implements").run Tryz.prog w = .ok (284, .agg #[h]) w := by kernel_rfl
theorem asMa (h : Value) (w : World) : (Go.method 441 107 (.agg #[h]) "AssignableTo").run Tryz.prog w = .ok (281, .agg #[h]) w := by kernel_rfl
theorem asK2 (w : World) : ((ReflectliteType.abiMethod fun t => (fun a : Nat => Value.int IntKind.u8 (a : Int)) <$> Rtype.kind t) #[.pointer (some ⟨10, 55, none⟩)]).run Tryz.prog w = .ok (.int .u8 22) w := by kernel_rfl
theorem asK1 (w : World) : ((ReflectliteType.abiMethod fun t => (fun a : Nat => Value.int IntKind.u8 (a : Int)) <$> Rtype.kind t) #[.pointer (some ⟨10, 50, none⟩)]).run Tryz.prog w = .ok (.int .u8 22) w := by kernel_rfl
theorem asE2 (w : World) : (ReflectliteType.method ReflectliteType.elem #[.agg #[.pointer (some ⟨10, 55, none⟩)]]).run Tryz.prog w = .ok (.iface 107 (.agg #[.pointer (some ⟨10, 50, none⟩)])) w := by kernel_rfl
theorem asI1 (w : World) : (ReflectliteType.relation "Implements" ReflectliteType.implements_ #[.agg #[.pointer (some ⟨10, 50, none⟩)], .iface 107 (.agg #[.pointer (some ⟨10, 31, none⟩)])]).run Tryz.prog w = .ok (.bool true) w := by kernel_rfl
theorem asO1 (v : Value) (w : World) : (ReflectliteType.typeOf #[.iface 50 v]).run Tryz.prog w = .ok (.iface 107 (.agg #[.pointer (some ⟨10, 50, none⟩)])) w := by kernel_rfl
theorem asA1 (w : World) : (ReflectliteType.relation "AssignableTo" ReflectliteType.assignableTo #[.agg #[.pointer (some ⟨10, 50, none⟩)], .iface 107 (.agg #[.pointer (some ⟨10, 50, none⟩)])]).run Tryz.prog w = .ok (.bool true) w := by kernel_rfl
theorem asP2 (a : Addr) (w : World) : (ReflectliteValue.parts (.agg #[.pointer (some ⟨10, 55, none⟩), .pointer (some a), .int .u64 150])).run Tryz.prog w = .ok (some (55, a, 150)) w := by kernel_rfl
theorem asP1 (a : Addr) (w : World) : (ReflectliteValue.parts (.agg #[.pointer (some ⟨10, 50, none⟩), .pointer (some a), .int .u64 150])).run Tryz.prog w = .ok (some (50, a, 150)) w := by kernel_rfl
theorem asP3 (a : Addr) (w : World) : (ReflectliteValue.parts (.agg #[.pointer (some ⟨10, 50, none⟩), .pointer (some a), .int .u64 406])).run Tryz.prog w = .ok (some (50, a, 406)) w := by kernel_rfl
theorem asX2 (w : World) : (Rtype.elem? 55).run Tryz.prog w = .ok (some 50) w := by kernel_rfl
theorem asMkV (p : Addr) (w : World) : (ReflectliteValue.mk 50 p ReflectliteValue.flagAddr).run Tryz.prog w = .ok (.agg #[.pointer (some ⟨10, 50, none⟩), .pointer (some p), .int .u64 406]) w := by kernel_rfl
theorem asD1 (w : World) : (Rtype.directlyAssignable 50 50).run Tryz.prog w = .ok true w := by kernel_rfl

/-- a method of a reflected value, by its parts -/
theorem rv_method (z : Sem Value) (f : TypeId → Addr → Nat → Nat → Sem Value) (v : Value) (t : TypeId) (a : Addr) (fl : Nat) (w : World) (hp : (ReflectliteValue.parts v).run Tryz.prog w = .ok (some (t, a, fl)) w) :
    (ReflectliteValue.method z f #[v]).run Tryz.prog w = (f t a fl (fl % 32)).run Tryz.prog w := by
  have e : ReflectliteValue.method z f #[v] = (do match ← ReflectliteValue.parts v with | none => z | some (t, a, fl) => f t a fl (fl % 32)) := rfl
  rw [e]
  simp only [Sem.run_bind, hp, Result.andThen]
theorem asN2 (a p : Addr) (w : World) (ha : w.cell? a = some (.pointer (some p))) :
    (ReflectliteValue.method (ReflectliteValue.valueError "reflectlite.Value.IsNil" 0) ReflectliteValue.isNil #[.agg #[.pointer (some ⟨10, 55, none⟩), .pointer (some a), .int .u64 150]]).run Tryz.prog w = .ok (.bool false) w := by
  rw [rv_method _ _ _ _ _ _ _ (asP2 a w)]
  simp [ReflectliteValue.isNil, loadVar, isAgg, underlying, Tryz.underlying55, ha, Result.andThen]
theorem asL2 (a p : Addr) (w : World) (ha : w.cell? a = some (.pointer (some p))) :
    (ReflectliteValue.method (ReflectliteValue.valueError "reflectlite.Value.Elem" 0) ReflectliteValue.elem #[.agg #[.pointer (some ⟨10, 55, none⟩), .pointer (some a), .int .u64 150]]).run Tryz.prog w = .ok (.agg #[.pointer (some ⟨10, 50, none⟩), .pointer (some p), .int .u64 406]) w := by
  rw [rv_method _ _ _ _ _ _ _ (asP2 a w)]
  simp [ReflectliteValue.elem, loadVar, isAgg, underlying, Tryz.underlying55, ha, Result.andThen, asX2, asMkV]
theorem asS1 (ta b e : Addr) (old : Value) (w : World) (hb : w.cell? b = some (.pointer (some e))) (ht : w.cell? ta = some old) (hf : w.frozen? ta = false) :
    (ReflectliteValue.set #[.agg #[.pointer (some ⟨10, 50, none⟩), .pointer (some ta), .int .u64 406], .agg #[.pointer (some ⟨10, 50, none⟩), .pointer (some b), .int .u64 150]]).run Tryz.prog w = .ok (.tuple #[]) (w.setCell ta (.pointer (some e))) := by
  show Sem.run Tryz.prog (ReflectliteValue.parts (.agg #[.pointer (some ⟨10, 50, none⟩), .pointer (some ta), .int .u64 406]) >>= _) w = _
  have gl : ∀ (v x : Value) (h1 : (#[v, x] : Array Value).size = 2) (h2 : 1 < 2), (#[v, x] : Array Value).getLit 1 h1 h2 = x := fun _ _ _ _ => rfl
  simp only [Sem.run_bind, asP3, gl, asP1, Result.andThen]
  simp [ReflectliteValue.flagAddr, loadVar, isAgg, underlying, Tryz.underlying50, hb, Result.andThen, asD1, storeVar, Value.cells, storeCells, Addr.add]
  rw [run_store Tryz.prog w ta _ _ (by rfl)]
  simp [ht, hf]

end Go.Proofs.YtfiijlmpfpmgiaaGreatDoor

/-
  errors.As of a fault.
-/
namespace Go.Proofs.YtfiijlmpfpmgiaaGreatDoor
open Go.RowKit Go.Extern.Stop Go.Stop Go.Extern

/-- errors.As of a fault: the target, a variable that was there, is set; nothing else that was there turns -/
theorem asOnly (w : World) (t : Addr) (o1 o2 o3 o4 : Obj) (v : Value) : Only (fun g => g = t.block) w (((((w.alloc o1).alloc o2).alloc o3).alloc o4).setCell t v) :=
  (((((Only.refl (fun g => g = t.block) w).alloc o1).alloc o2).alloc o3).alloc o4).setCell (S := fun g => g = t.block) (p := t) (Or.inl rfl) v

set_option maxHeartbeats 4000000 in
theorem as_hit (e t : Addr) (old : Value) (w : World) (hg : w.cell? ⟨0, 0, none⟩ = some (.iface 107 (.agg #[.pointer (some ⟨10, 31, none⟩)]))) (ht0 : w.cell? t = some old) (hf0 : w.frozen? t = false) :
    Calls Tryz.prog 14 #[.iface 50 (.pointer (some e)), .iface 55 (.pointer (some t))] w fun ev w' => ev = .returned (.bool true) ∧ Only (fun g => g = t.block) w w' ∧ ∃ w1, Ext w w1 ∧ w' = w1.setCell t (.pointer (some e)) := by
  have h1 := @run_callFunc_extern Tryz.prog 34 _ (fun args => ReflectliteValue.unpack (args.getD 0 (.tuple #[]))) Tryz.func34 (by kernel_rfl) (by kernel_rfl) (by kernel_rfl) (by kernel_rfl)
  have h2 := @run_callFunc_extern Tryz.prog 35 _ (ReflectliteValue.methodAny (ReflectliteValue.valueError "reflectlite.Value.Type" 0) (fun t _ _ _ => ReflectliteType.toType t)) Tryz.func35 (by kernel_rfl) (by kernel_rfl) (by kernel_rfl) (by kernel_rfl)
  have h3 := @run_callFunc_extern Tryz.prog 36 _ (ReflectliteValue.method (ReflectliteValue.valueError "reflectlite.Value.IsNil" 0) ReflectliteValue.isNil) Tryz.func36 (by kernel_rfl) (by kernel_rfl) (by kernel_rfl) (by kernel_rfl)
  have h4 := @run_callFunc_extern Tryz.prog 272 _ (ReflectliteType.abiMethod fun t => do pure (.int .u8 (← Rtype.kind t))) Tryz.func272 (by kernel_rfl) (by kernel_rfl) (by kernel_rfl) (by kernel_rfl)
  have h5 := @run_callFunc_extern Tryz.prog 283 _ (ReflectliteType.method ReflectliteType.elem) Tryz.func283 (by kernel_rfl) (by kernel_rfl) (by kernel_rfl) (by kernel_rfl)
  have h6 := @run_callFunc_extern Tryz.prog 284 _ (ReflectliteType.relation "Implements" ReflectliteType.implements_) Tryz.func284 (by kernel_rfl) (by kernel_rfl) (by kernel_rfl) (by kernel_rfl)
  have h7 := @run_callFunc_extern Tryz.prog 52 _ ReflectliteType.typeOf Tryz.func52 (by kernel_rfl) (by kernel_rfl) (by kernel_rfl) (by kernel_rfl)
  have h8 := @run_callFunc_extern Tryz.prog 281 _ (ReflectliteType.relation "AssignableTo" ReflectliteType.assignableTo) Tryz.func281 (by kernel_rfl) (by kernel_rfl) (by kernel_rfl) (by kernel_rfl)
  have h9 := @run_callFunc_extern Tryz.prog 53 _ (ReflectliteValue.method (ReflectliteValue.valueError "reflectlite.Value.Elem" 0) ReflectliteValue.elem) Tryz.func53 (by kernel_rfl) (by kernel_rfl) (by kernel_rfl) (by kernel_rfl)
  have h10 := @run_callFunc_extern Tryz.prog 54 _ ReflectliteValue.set Tryz.func54 (by kernel_rfl) (by kernel_rfl) (by kernel_rfl) (by kernel_rfl)
  have k1 := asV2
  have k2 := asV1
  have k3 := asT2
  have k4 := asMk
  have k5 := asMe
  have k6 := asMi
  have k7 := asMa
  have k8 := asK2
  have k9 := asK1
  have k10 := asE2
  have k11 := asI1
  have k12 := asO1
  have k13 := asA1
  obtain ⟨o1, ho1⟩ : ∃ o1 : Obj, o1 = .cells #[.pointer (some t)] 55 := ⟨_, rfl⟩
  obtain ⟨o2, ho2⟩ : ∃ o2 : Obj, o2 = .cells #[.pointer (some ⟨10, 55, none⟩), .pointer (some ⟨w.heap.size, 0, none⟩), .int .u64 150] 76 := ⟨_, rfl⟩
  have htl : t.block < w.heap.size := World.block_lt_of_cell? w _ ht0
  have x1 := (Ext.refl w).alloc o1
  have x2 := x1.alloc o2
  have x3 := x2.alloc o2
  have x4 := x3.alloc (.cells #[.pointer (some e)] 50)
  have y1 : (w.alloc o1).cell? ⟨w.heap.size, 0, none⟩ = some (.pointer (some t)) := by rw [ho1]; exact cell_of_row _ _ 0 _ _ _ (heap_alloc_new _ _)
  have n8 := asN2 ⟨w.heap.size, 0, none⟩ t ((w.alloc o1).alloc o2) (((Ext.refl _).alloc _).cell y1)
  have el := asL2 ⟨w.heap.size, 0, none⟩ t (((w.alloc o1).alloc o2).alloc o2) ((((Ext.refl _).alloc _).alloc _).cell y1)
  have g2 : ((w.alloc o1).alloc o2).cell? ⟨0, 0, none⟩ = _ := x2.cell hg
  have zf : (((((w.alloc o1).alloc o2).alloc o2).alloc (.cells #[.pointer (some e)] 50))).frozen? t = false := by
    rw [World.frozen?_alloc_old _ _ t (by simp; omega), World.frozen?_alloc_old _ _ t (by simp; omega), World.frozen?_alloc_old _ _ t (by simp; omega), World.frozen?_alloc_old _ _ t (Nat.ne_of_lt htl)]; exact hf0
  have st := asS1 t ⟨w.heap.size + 1 + 1 + 1, 0, none⟩ e old ((((w.alloc o1).alloc o2).alloc o2).alloc (.cells #[.pointer (some e)] 50))
    (by rw [World.cell?_alloc_at _ _ _ _ (by simp)]; rfl) (x4.cell ht0) zf
  have O : Hid (Only (fun g => g = t.block) w (((((w.alloc o1).alloc o2).alloc o2).alloc (.cells #[.pointer (some e)] 50)).setCell t (.pointer (some e))) ∧ ∃ w1, Ext w w1 ∧ ((((w.alloc o1).alloc o2).alloc o2).alloc (.cells #[.pointer (some e)] 50)).setCell t (.pointer (some e)) = w1.setCell t (.pointer (some e))) := ⟨asOnly w t _ _ _ _ _, _, x4, rfl⟩
  clear x1 x2 x3 x4 y1 zf htl ht0 hf0
  subst ho1 ho2
  go_enter Tryz.func14, Tryz.ntmps14
  go_wp2
  refine wp_loop_rounds 1 ?_
  rw [rounds_succ]
  go_wp2
  go_ret
  exact ⟨rfl, O.out⟩
end Go.Proofs.YtfiijlmpfpmgiaaGreatDoor

/-
  rosterlaw06.fault: the fault of an error.
-/
namespace Go.Proofs.YtfiijlmpfpmgiaaGreatDoor
open Go.RowKit

theorem FtAt.cells {w : World} {g c p : Nat} {wd : ByteArray} (h : FtAt w g c p wd) : w.cell? ⟨g, 0, none⟩ = some (.int .i64 c) ∧ w.cell? ⟨g, 1, none⟩ = some (.int .i64 p) ∧ w.cell? ⟨g, 2, none⟩ = some (.string wd) ∧ (∀ j, w.frozen? ⟨g, j, none⟩ = false) :=
  ⟨cell_of_row _ _ 0 _ _ _ h, cell_of_row _ _ 1 _ _ _ h, cell_of_row _ _ 2 _ _ _ h, fun j => by simp [World.frozen?, show w.heap[g]? = _ from h]⟩
theorem results_ft {fn : Func} {pp u : Tmp} {ty : TypeId} (h : fn.results = #[.cell pp ty, .tmp u]) (tmps : Array Value) (w : World) (g c p : Nat) (wd : ByteArray) (hty : ty = 27) (hp : tmps.getD pp undef = .pointer (some ⟨g, 0, none⟩)) (hc : FtAt w g c p wd) : (results fn tmps).run Tryz.prog w = .ok (.tuple #[.agg #[.int .i64 c, .int .i64 p, .string wd], tmps.getD u undef]) w := by
  subst hty
  have hl := run_loadCells_list (P := Tryz.prog) w ⟨g, 0, none⟩ [.int .i64 c, .int .i64 p, .string wd] (by
    intro j v hv
    rw [Addr.add_lit, Nat.zero_add, cell_of_row _ _ j _ _ _ hc]
    simpa using hv)
  have hl3 : (loadCells ⟨g, 0, none⟩ 3).run Tryz.prog w = .ok #[.int .i64 c, .int .i64 p, .string wd] w := hl
  have hag := Tryz.isAgg27
  have hsz : ∀ w, (sizeOf 27).run Tryz.prog w = .ok 3 w := Tryz.sizeOf27
  rw [results_cell_tmp h, hp]
  simp [asAddr, loadVar, Sem.run_bind, hag, hsz, hl3, Result.andThen]

def ErrT (w : World) : Prop := w.cell? ⟨0, 0, none⟩ = some (.iface 107 (.agg #[.pointer (some ⟨10, 31, none⟩)]))
theorem ErrT.ext {w w' : World} (h : ErrT w) (x : Ext w w') : ErrT w' := x.cell h
set_option maxRecDepth 100000 in
set_option maxHeartbeats 2000000 in
theorem fault_hit (w : World) (ge c a : Nat) (wd : ByteArray) (he : ErrT w) (hf : FtAt w ge c a wd) (hc : c ≠ 0) :
    Calls Tryz.prog 6 #[errV ge] w fun e w' => e = .returned (.tuple #[.agg #[.int .i64 c, .int .i64 a, .string wd], .bool true]) ∧ Ext w w' := by
  have hci : ((c : Int) == 0) = false := by simp; omega
  have hgl : ge < w.heap.size := (Array.getElem?_eq_some_iff.1 hf).1
  have z0 := heap_alloc_new w (.cells #[.int .i64 0, .int .i64 0, .string ⟨#[]⟩] 27)
  have x0 := (Ext.refl w).alloc (.cells #[.int .i64 0, .int .i64 0, .string ⟨#[]⟩] 27)
  have v1 := heap_alloc_new (w.alloc (.cells #[.int .i64 0, .int .i64 0, .string ⟨#[]⟩] 27)) (.cells #[.pointer none] 50)
  have x1 := (Ext.refl (w.alloc (.cells #[.int .i64 0, .int .i64 0, .string ⟨#[]⟩] 27))).alloc (.cells #[.pointer none] 50)
  have z1 : FtAt ((w.alloc (.cells #[.int .i64 0, .int .i64 0, .string ⟨#[]⟩] 27)).alloc (.cells #[.pointer none] 50)) w.heap.size 0 0 ⟨#[]⟩ := FtAt.ext z0 x1
  rw [World.size_alloc] at v1
  have x1w := x0.trans x1
  have e1 := hf.ext x1w
  have g1 := he.ext x1w
  have t1 : ((w.alloc (.cells #[.int .i64 0, .int .i64 0, .string ⟨#[]⟩] 27)).alloc (.cells #[.pointer none] 50)).cell? ⟨w.heap.size + 1, 0, none⟩ = some (.pointer none) := cell_of_row _ _ 0 _ _ _ v1
  have f1 : ((w.alloc (.cells #[.int .i64 0, .int .i64 0, .string ⟨#[]⟩] 27)).alloc (.cells #[.pointer none] 50)).frozen? ⟨w.heap.size + 1, 0, none⟩ = false := by simp
  have hA := as_hit ⟨ge, 0, none⟩ ⟨w.heap.size + 1, 0, none⟩ _ _ g1 t1 f1
  clear x0 x1 z0 he hf hc t1 f1 g1
  unfold errV
  go_enter Tryz.func6, Tryz.ntmps6
  go_wp2_with fail
  go_at_call 14
  refine hA.mono ?_
  rintro _ w3 ⟨rfl, o3, w2, x2, hw3⟩
  have v3 : w3.heap[w.heap.size + 1]? = some (.cells #[.pointer (some ⟨ge, 0, none⟩)] 50 (0, 0)) := by
    rw [hw3]
    exact heap_setCell_at w2 (w.heap.size + 1) 0 _ _ _ _ ((x2.block (w.heap.size + 1) (Array.getElem?_eq_some_iff.1 v1).1).trans v1)
  have z3 := z1.only o3 (by omega)
  have e3 := e1.only o3 (by omega)
  have x3w : Ext w w3 := x1w.then o3 (fun g hg => by omega)
  clear hw3 x2 o3 hA v1 z1 e1 x1w
  have cv : w3.cell? ⟨w.heap.size + 1, 0, none⟩ = some (.pointer (some ⟨ge, 0, none⟩)) := cell_of_row _ _ 0 _ _ _ v3
  obtain ⟨a0, a1, a2, az⟩ := e3.cells
  obtain ⟨b0, b1, b2, bz⟩ := z3.cells
  go_wp2
  have z4 : FtAt (w3.setCell ⟨w.heap.size, 0, none⟩ (.int .i64 c)) w.heap.size c 0 ⟨#[]⟩ := heap_setCell_at w3 w.heap.size 0 _ _ _ _ z3
  have z5 : FtAt ((w3.setCell ⟨w.heap.size, 0, none⟩ (.int .i64 c)).setCell ⟨w.heap.size, 1, none⟩ (.int .i64 a)) w.heap.size c a ⟨#[]⟩ := heap_setCell_at _ w.heap.size 1 _ _ _ _ z4
  have z6 : FtAt (((w3.setCell ⟨w.heap.size, 0, none⟩ (.int .i64 c)).setCell ⟨w.heap.size, 1, none⟩ (.int .i64 a)).setCell ⟨w.heap.size, 2, none⟩ (.string wd)) w.heap.size c a wd := heap_setCell_at _ w.heap.size 2 _ _ _ _ z5
  refine bodyPost_ret (results_ft rfl _ _ w.heap.size c a wd rfl rfl z6) rfl ?_
  exact ⟨rfl, ((x3w.setNew (p := ⟨w.heap.size, 0, none⟩) (Nat.le_refl _) _).setNew (p := ⟨w.heap.size, 1, none⟩) (Nat.le_refl _) _).setNew (p := ⟨w.heap.size, 2, none⟩) (Nat.le_refl _) _⟩

set_option maxRecDepth 100000 in
set_option maxHeartbeats 4000000 in
theorem fault_none (w : World) :
    Calls Tryz.prog 6 #[.nilIface] w fun e w' => e = .returned (.tuple #[.agg #[.int .i64 0, .int .i64 0, .string ⟨#[]⟩], .bool true]) ∧ Ext w w' := by
  have z0 : FtAt (w.alloc (.cells #[.int .i64 0, .int .i64 0, .string ⟨#[]⟩] 27)) w.heap.size 0 0 ⟨#[]⟩ := heap_alloc_new w (.cells #[.int .i64 0, .int .i64 0, .string ⟨#[]⟩] 27)
  have x0 := (Ext.refl w).alloc (.cells #[.int .i64 0, .int .i64 0, .string ⟨#[]⟩] 27)
  go_enter Tryz.func6, Tryz.ntmps6
  go_wp2
  refine bodyPost_ret (results_ft rfl _ _ w.heap.size 0 0 ⟨#[]⟩ rfl rfl z0) rfl ?_
  exact ⟨rfl, x0⟩
end Go.Proofs.YtfiijlmpfpmgiaaGreatDoor
