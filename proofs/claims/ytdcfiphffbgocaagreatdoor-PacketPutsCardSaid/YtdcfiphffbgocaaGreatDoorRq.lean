/-
  The packet's reader: checked, against.
-/
import Derived.Test.YtdcfiphffbgocaaGreatDoorRn
namespace Go.Proofs.YtdcfiphffbgocaaGreatDoor
open Go.RowKit Go.Shelf

def bindR {α β : Type} (o : Rs α) (k : α → Rs β) : Rs β := match o with | .ok a => k a | .error e => .error e
def checkedR (a : OwnF) (kids : FT) (n : Nat) : Rs OwnF := if (checkL a kids).1 = 0 then .ok a else .error (90, n)
def Ix.to (x : Ix) (n : Nat) : Ix := { x with next := n }
def ownK (k : Int) : OwnF := ⟨k, ⟨#[]⟩, ⟨#[]⟩, ⟨#[]⟩, [], ⟨#[]⟩, ⟨#[]⟩, false⟩
/-- a text and a value -/
def againstR (l : List UInt8) (x : Ix) (k : Int) : Rs OwnF :=
  bindR (takeR l x 4) fun y => bindR (textR l y) fun d => bindR (takeR l (x.to y.t.til) 4) fun z => bindR (textR l z) fun v => bindR (endR l (x.to z.t.til)) fun _ => checkedR { ownK k with desc := str d, value := str v } .nil x.at_

theorem results_f {fn : Func} {pp : Tmp} {ty : TypeId} (h : fn.results = #[.cell pp ty]) (tmps : Array Value) (w : World) (g : Nat) (f : F9) (hty : ty = 27) (hp : tmps.getD pp undef = .pointer (some ⟨g, 0, none⟩)) (hc : FlT w g f) : (results fn tmps).run Tryz.prog w = .ok (.agg f.arr) w := by
  subst hty
  have hl := run_loadCells_list (P := Tryz.prog) w ⟨g, 0, none⟩ f.arr.toList (by
    intro j v hv
    rw [Addr.add_lit, Nat.zero_add, cell_of_row _ _ j _ _ _ hc]
    simpa [F9.arr] using hv)
  have hl9 : (loadCells ⟨g, 0, none⟩ 9).run Tryz.prog w = .ok f.arr w := hl
  have hag := Tryz.isAgg27
  have hsz : ∀ w, (sizeOf 27).run Tryz.prog w = .ok 9 w := Tryz.sizeOf27
  have hp' : tmps[pp]?.getD undef = .pointer (some ⟨g, 0, none⟩) := by simpa using hp
  simp [results, h, hp', asAddr, loadVar, Sem.run_bind, hag, hsz, hl9, Result.andThen]
theorem takeR_ok {l : List UInt8} {x y : Ix} {tag : Nat} (h : takeR l x tag = .ok y) : y.Ok l ∧ x.left = true ∧ bAt l y.at_ = tag ∧ y.at_ = x.next ∧ y.next = y.t.fro ∧ y.t.til ≤ x.t.til := by
  unfold takeR at h
  split at h
  · rename_i hx
    cases hi : itemR l x.next x.t.til with
    | error e => rw [hi] at h; simp at h
    | ok z =>
      rw [hi] at h
      simp only at h
      split at h
      · rename_i ht
        simp only [Except.ok.injEq] at h
        subst h
        obtain ⟨h1, h2, h3, h4, h5, h6⟩ := itemR_ok hi
        exact ⟨h1, hx, ht, by omega, h4, by omega⟩
      · cases h
  · cases h

set_option maxRecDepth 100000 in
set_option maxHeartbeats 4000000 in
theorem checked_any (w : World) (X R : Nat) (l : List UInt8) (x : Ix) (h : IxAt w X R l x) (f : F9) (a : OwnF) (kids : FT) (ho : FOwn w f a) (hk : FKids w f kids) :
    Calls Tryz.prog 92 #[.pointer (some ⟨X, 0, none⟩), .agg f.arr] w fun e w' => Ext w w' ∧ Outc (checkedR a kids x.at_) (fun _ e => e = .returned (.agg f.arr)) e := by
  have hC := fun W (y : Ext w W) => Check_any W (.agg f.arr) a kids ⟨f, rfl, ho.ext y, hk.ext y⟩
  have hV : Hid (checkedR a kids x.at_ = if (checkL a kids).1 = 0 then .ok a else .error (90, x.at_)) := rfl
  clear ho hk
  generalize checkL a kids = K at hC hV
  obtain ⟨ke, kn9, kd⟩ := K
  simp only at hC hV
  obtain ⟨kind, ka, kn, kc, desc, value, start, ma, mn, mc, fin, rule, dn⟩ := f
  simp only [F9.arr] at hC ⊢
  have f0 : FlT (w.alloc (.cells #[.int .i8 kind, .slice ka kn kc, .string desc, .string value, .string start, .slice ma mn mc, .string fin, .string rule, .bool dn] 27)) w.heap.size ⟨kind, ka, kn, kc, desc, value, start, ma, mn, mc, fin, rule, dn⟩ := heap_alloc_new _ _
  have x0 := (Ext.refl w).alloc (.cells #[.int .i8 kind, .slice ka kn kc, .string desc, .string value, .string start, .slice ma mn mc, .string fin, .string rule, .bool dn] 27)
  have z0 := fl_new (w.alloc (.cells #[.int .i8 kind, .slice ka kn kc, .string desc, .string value, .string start, .slice ma mn mc, .string fin, .string rule, .bool dn] 27))
  have x1 := (Ext.refl (w.alloc (.cells #[.int .i8 kind, .slice ka kn kc, .string desc, .string value, .string start, .slice ma mn mc, .string fin, .string rule, .bool dn] 27))).alloc (.cells #[.int .i8 0, .slice none 0 0, .string ⟨#[]⟩, .string ⟨#[]⟩, .string ⟨#[]⟩, .slice none 0 0, .string ⟨#[]⟩, .string ⟨#[]⟩, .bool false] 27)
  rw [World.size_alloc] at z0
  have f1 := f0.ext x1
  have x2 := x0.trans x1
  go_enter Tryz.func92, Tryz.ntmps92
  go_upto_region 1 with fail
  clear f0 x0 x1
  generalize World.alloc (w.alloc _) _ = w1 at f1 z0 x2 ⊢
  have i1 := h.ext x2
  obtain ⟨c0, c1, c2, c3, c4, c5, c6, c7, c8, fz⟩ := f1.cells
  simp only at c0 c1 c2 c3 c4 c5 c6 c7 c8
  go_wp2_with fail
  go_at_call 48
  refine (hC _ x2).mono ?_
  rintro _ w2 ⟨rfl, x3⟩
  have f2 := f1.ext x3
  have z2 := z0.ext x3
  have i2 := i1.ext x3
  have x4 := x2.trans x3
  clear c0 c1 c2 c3 c4 c5 c6 c7 c8 fz f1 z0 i1 hC x2 x3
  by_cases hk0 : ke = 0
  · subst hk0
    have hR : Hid (checkedR a kids x.at_ = .ok a) := by show _ = _; rw [hV.out, if_pos rfl]
    obtain ⟨c0, c1, c2, c3, c4, c5, c6, c7, c8, fz⟩ := f2.cells
    simp only at c0 c1 c2 c3 c4 c5 c6 c7 c8
    obtain ⟨d0, d1, d2, d3, d4, d5, d6, d7, d8, dz⟩ := z2.cells
    go_wp2
    have f6 := z2.put ⟨kind, ka, kn, kc, desc, value, start, ma, mn, mc, fin, rule, dn⟩
    have o6 := put_only w2 (w.heap.size + 1) ⟨kind, ka, kn, kc, desc, value, start, ma, mn, mc, fin, rule, dn⟩
    refine bodyPost_ret (results_f rfl _ _ (w.heap.size + 1) _ rfl rfl f6) rfl ?_
    exact ⟨x4.then o6 (fun g hg => by omega), outc_ok hR.out rfl⟩
  · have hk0' : ((ke : Int) != 0) = true := by simp; omega
    have hR : Hid (checkedR a kids x.at_ = .error (90, x.at_)) := by show _ = _; rw [hV.out, if_neg hk0]
    obtain ⟨c0, c1, c2, c3, c4, c5, c6, c7, c8, fz⟩ := (IxA.cells i2)
    clear hk0
    go_wp2
    exact ⟨rfl, x4, outc_err hR.out rfl⟩
end Go.Proofs.YtdcfiphffbgocaaGreatDoor
