/-
  errors.As of a fault.
-/
import Derived.Test.YtkbbkhdbigjngaaGreatDoorTAs
namespace Go.Proofs.YtkbbkhdbigjngaaGreatDoor
open Go.RowKit Go.Extern.Stop Go.Stop Go.Extern

/-- errors.As of a fault: the target, a variable that was there, is set; nothing else that was there turns -/
theorem asOnly (w : World) (t : Addr) (o1 o2 o3 o4 : Obj) (v : Value) : Only (fun g => g = t.block) w (((((w.alloc o1).alloc o2).alloc o3).alloc o4).setCell t v) :=
  (((((Only.refl (fun g => g = t.block) w).alloc o1).alloc o2).alloc o3).alloc o4).setCell (S := fun g => g = t.block) (p := t) (Or.inl rfl) v

set_option maxHeartbeats 4000000 in
theorem as_hit (e t : Addr) (old : Value) (w : World) (hg : w.cell? ⟨0, 0, none⟩ = some (.iface 87 (.agg #[.pointer (some ⟨5, 27, none⟩)]))) (ht0 : w.cell? t = some old) (hf0 : w.frozen? t = false) :
    Calls Tryz.prog 25 #[.iface 55 (.pointer (some e)), .iface 58 (.pointer (some t))] w fun ev w' => ev = .returned (.bool true) ∧ Only (fun g => g = t.block) w w' ∧ ∃ w1, Ext w w1 ∧ w' = w1.setCell t (.pointer (some e)) := by
  have h1 := @run_callFunc_extern Tryz.prog 39 _ (fun args => ReflectliteValue.unpack (args.getD 0 (.tuple #[]))) Tryz.func39 (by kernel_rfl) (by kernel_rfl) (by kernel_rfl) (by kernel_rfl)
  have h2 := @run_callFunc_extern Tryz.prog 40 _ (ReflectliteValue.methodAny (ReflectliteValue.valueError "reflectlite.Value.Type" 0) (fun t _ _ _ => ReflectliteType.toType t)) Tryz.func40 (by kernel_rfl) (by kernel_rfl) (by kernel_rfl) (by kernel_rfl)
  have h3 := @run_callFunc_extern Tryz.prog 41 _ (ReflectliteValue.method (ReflectliteValue.valueError "reflectlite.Value.IsNil" 0) ReflectliteValue.isNil) Tryz.func41 (by kernel_rfl) (by kernel_rfl) (by kernel_rfl) (by kernel_rfl)
  have h4 := @run_callFunc_extern Tryz.prog 122 _ (ReflectliteType.abiMethod fun t => do pure (.int .u8 (← Rtype.kind t))) Tryz.func122 (by kernel_rfl) (by kernel_rfl) (by kernel_rfl) (by kernel_rfl)
  have h5 := @run_callFunc_extern Tryz.prog 134 _ (ReflectliteType.method ReflectliteType.elem) Tryz.func134 (by kernel_rfl) (by kernel_rfl) (by kernel_rfl) (by kernel_rfl)
  have h6 := @run_callFunc_extern Tryz.prog 135 _ (ReflectliteType.relation "Implements" ReflectliteType.implements_) Tryz.func135 (by kernel_rfl) (by kernel_rfl) (by kernel_rfl) (by kernel_rfl)
  have h7 := @run_callFunc_extern Tryz.prog 55 _ ReflectliteType.typeOf Tryz.func55 (by kernel_rfl) (by kernel_rfl) (by kernel_rfl) (by kernel_rfl)
  have h8 := @run_callFunc_extern Tryz.prog 132 _ (ReflectliteType.relation "AssignableTo" ReflectliteType.assignableTo) Tryz.func132 (by kernel_rfl) (by kernel_rfl) (by kernel_rfl) (by kernel_rfl)
  have h9 := @run_callFunc_extern Tryz.prog 56 _ (ReflectliteValue.method (ReflectliteValue.valueError "reflectlite.Value.Elem" 0) ReflectliteValue.elem) Tryz.func56 (by kernel_rfl) (by kernel_rfl) (by kernel_rfl) (by kernel_rfl)
  have h10 := @run_callFunc_extern Tryz.prog 57 _ ReflectliteValue.set Tryz.func57 (by kernel_rfl) (by kernel_rfl) (by kernel_rfl) (by kernel_rfl)
  have k1 := asV2
  have k2 := asV1
  have k3 := asT2
  have k4 := asMk
  have k5 := asMe
  have k6 := asMi
  have k7 := asMa
  have k8 := asK2
  have k9 := asK1
  have k10 := asE2
  have k11 := asI1
  have k12 := asO1
  have k13 := asA1
  obtain ⟨o1, ho1⟩ : ∃ o1 : Obj, o1 = .cells #[.pointer (some t)] 58 := ⟨_, rfl⟩
  obtain ⟨o2, ho2⟩ : ∃ o2 : Obj, o2 = .cells #[.pointer (some ⟨5, 58, none⟩), .pointer (some ⟨w.heap.size, 0, none⟩), .int .u64 150] 70 := ⟨_, rfl⟩
  have htl : t.block < w.heap.size := World.block_lt_of_cell? w _ ht0
  have x1 := (Ext.refl w).alloc o1
  have x2 := x1.alloc o2
  have x3 := x2.alloc o2
  have x4 := x3.alloc (.cells #[.pointer (some e)] 55)
  have y1 : (w.alloc o1).cell? ⟨w.heap.size, 0, none⟩ = some (.pointer (some t)) := by rw [ho1]; exact cell_of_row _ _ 0 _ _ _ (heap_alloc_new _ _)
  have n8 := asN2 ⟨w.heap.size, 0, none⟩ t ((w.alloc o1).alloc o2) (((Ext.refl _).alloc _).cell y1)
  have el := asL2 ⟨w.heap.size, 0, none⟩ t (((w.alloc o1).alloc o2).alloc o2) ((((Ext.refl _).alloc _).alloc _).cell y1)
  have g2 : ((w.alloc o1).alloc o2).cell? ⟨0, 0, none⟩ = _ := x2.cell hg
  have zf : (((((w.alloc o1).alloc o2).alloc o2).alloc (.cells #[.pointer (some e)] 55))).frozen? t = false := by
    rw [World.frozen?_alloc_old _ _ t (by simp; omega), World.frozen?_alloc_old _ _ t (by simp; omega), World.frozen?_alloc_old _ _ t (by simp; omega), World.frozen?_alloc_old _ _ t (Nat.ne_of_lt htl)]; exact hf0
  have st := asS1 t ⟨w.heap.size + 1 + 1 + 1, 0, none⟩ e old ((((w.alloc o1).alloc o2).alloc o2).alloc (.cells #[.pointer (some e)] 55))
    (by rw [World.cell?_alloc_at _ _ _ _ (by simp)]; rfl) (x4.cell ht0) zf
  have O : Hid (Only (fun g => g = t.block) w (((((w.alloc o1).alloc o2).alloc o2).alloc (.cells #[.pointer (some e)] 55)).setCell t (.pointer (some e))) ∧ ∃ w1, Ext w w1 ∧ ((((w.alloc o1).alloc o2).alloc o2).alloc (.cells #[.pointer (some e)] 55)).setCell t (.pointer (some e)) = w1.setCell t (.pointer (some e))) := ⟨asOnly w t _ _ _ _ _, _, x4, rfl⟩
  clear x1 x2 x3 x4 y1 zf htl ht0 hf0
  subst ho1 ho2
  go_enter Tryz.func25, Tryz.ntmps25
  go_wp2
  refine wp_loop_rounds 1 ?_
  rw [rounds_succ]
  go_wp2
  go_ret
  exact ⟨rfl, O.out⟩
end Go.Proofs.YtkbbkhdbigjngaaGreatDoor
