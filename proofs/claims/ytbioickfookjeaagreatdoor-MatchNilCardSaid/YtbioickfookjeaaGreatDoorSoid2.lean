/-
  isOid, whatever the text.
-/
import Derived.Test.YtbioickfookjeaaGreatDoorSoid
namespace Go.Proofs.YtbioickfookjeaaGreatDoor
open Go.RowKit Go.Shelf
attribute [local go_sem] Oper.semAt_some

theorem results_box {P : Program} {fn : Func} {p : Tmp} {ty : TypeId} (h : fn.results = #[.cell p ty]) (tmps : Array Value) (w : World) (g : Nat) (v : Value) (d : TypeDesc) (hp : tmps.getD p undef = .pointer (some ⟨g, 0, none⟩))
    (hc : w.cell? ⟨g, 0, none⟩ = some v) (hu : P.underlying ty = some d) (hd : (match d with | .struct _ | .array _ _ => true | _ => false) = false) : (results fn tmps).run P w = .ok v w := by
  have hp' : tmps[p]?.getD undef = .pointer (some ⟨g, 0, none⟩) := by simpa using hp
  have hagg : (isAgg ty).run P w = .ok false w := by
    unfold isAgg
    rw [Sem.run_bind, run_underlying hu w]
    cases d <;> simp_all
  simp [results, h, hp', asAddr, loadVar, Sem.run_bind, hagg, hc]
theorem Only.extB {S : Nat → Prop} {w W W' : World} (h : Ext w W) (k : Only S W W') (hS : ∀ g, S g → w.heap.size ≤ g) : Ext w W' := h.then k hS
theorem only_boxed {S : Nat → Prop} {W W' : World} {k : Nat} {t : TypeId} {v : Value} (h : Boxed W k t v) (ho : Only S W W') (hn : ¬ S k) : Boxed W' k t v := (ho.block k h.lt hn).trans h

set_option maxRecDepth 100000 in
set_option maxHeartbeats 4000000 in
theorem isOid_any (w : World) (s : ByteArray) (hs : s.size ≤ 281474976710656) :
    Calls Tryz.prog 160 #[.string s] w fun e w' => e = .returned (.bool (soidB (byt s))) ∧ Ext w w' := by
  have hc := fun w => Contains_dot w s
  have hsq := fun w => SplitSeq_any w s ⟨#[46]⟩
  have hse := fun Bs w h1 h2 h3 => split_seq 4 (by omega) Bs s hs w h1 h2 h3
  have hnum := fun (x : ByteArray) (hx : x.size ≤ 281474976710656) w => isNumberS_any w x hx
  refine (callsIn_wide (n := 5)).1 ?_
  refine callsIn_of_wp_marks Tryz.func160 rfl trivial ?_ rfl
  simp only [Tryz.ntmps160, List.size_toArray, List.length_cons, List.length_nil, Nat.reduceAdd, Nat.reduceSub, Array.replicate_succ, Array.replicate_zero, List.push_toArray, List.append_toArray, List.nil_append, List.cons_append]
  cases hd : (byt s).contains 46 with
  | false =>
    rw [hd] at hc
    have HB : Hid (soidB (byt s) = false) := by show _ = _; rw [soidB, hd]; rfl
    clear hd
    gi_wp2_with (refine ⟨trivial, ?_⟩; gi_at_call 209; refine (callsIn_wide.2 (hc _)).mono ?_; rintro e w2 ⟨rfl, rfl⟩)
    exact ⟨_, results_box rfl _ _ w.heap.size (.bool false) _ rfl (Boxed.new w _ _).cell rfl rfl, ret_b HB.out.symm, (Ext.refl w).alloc _⟩
  | true =>
    rw [hd] at hc
    have HB : Hid (soidB (byt s) = (splitD (byt s)).all snumB) := by show _ = _; rw [soidB, hd]; rfl
    clear hd
    gi_wp2_with (first
      | (refine ⟨trivial, ?_⟩; gi_at_call 209; refine (callsIn_wide.2 (hc _)).mono ?_; rintro e w2 ⟨rfl, rfl⟩)
      | (refine ⟨trivial, ?_⟩; gi_at_call 210; refine (callsIn_wide.2 (hsq _)).mono ?_; rintro e w2 ⟨rfl, rfl⟩))
    have nb0 : Boxed (w.alloc (.cells #[.bool false] 4)) w.heap.size 4 (.bool false) := Boxed.new w _ _
    generalize hwa : w.alloc (.cells #[.bool false] 4) = wa at nb0 ⊢
    have hza : wa.heap.size = w.heap.size + 1 := by rw [← hwa]; simp
    have xa : Ext w wa := by rw [← hwa]; exact (Ext.refl w).alloc _
    rw [← hza]
    have nb1 := ((Boxed.new wa 9 (.string s)).alloc (.cells #[.string ⟨#[46]⟩] 9)).alloc (.cells #[.int .i64 0] 3)
    have nb2 := (Boxed.new (wa.alloc (.cells #[.string s] 9)) 9 (.string ⟨#[46]⟩)).alloc (.cells #[.int .i64 0] 3)
    have nb3 := Boxed.new ((wa.alloc (.cells #[.string s] 9)).alloc (.cells #[.string ⟨#[46]⟩] 9)) 3 (.int .i64 0)
    have nb0' := ((nb0.alloc (.cells #[.string s] 9)).alloc (.cells #[.string ⟨#[46]⟩] 9)).alloc (.cells #[.int .i64 0] 3)
    have xb : Ext w (((wa.alloc (.cells #[.string s] 9)).alloc (.cells #[.string ⟨#[46]⟩] 9)).alloc (.cells #[.int .i64 0] 3)) := ((xa.alloc _).alloc _).alloc _
    have hzb : (((wa.alloc (.cells #[.string s] 9)).alloc (.cells #[.string ⟨#[46]⟩] 9)).alloc (.cells #[.int .i64 0] 3)).heap.size = wa.heap.size + 3 := by simp
    simp only [World.size_alloc] at nb2 nb3
    generalize ((wa.alloc (.cells #[.string s] 9)).alloc (.cells #[.string ⟨#[46]⟩] 9)).alloc (.cells #[.int .i64 0] 3) = wb at *
    have hA : Hid (wa.heap.size = w.heap.size + 1) := hza
    have hBz : Hid (wb.heap.size = wa.heap.size + 3) := hzb
    clear hza hzb hwa
    refine wpIn_range_box (gf := 287) (lb := #[.pointer (some ⟨wa.heap.size + 1, 0, none⟩), .pointer (some ⟨wa.heap.size, 0, none⟩), .pointer (some ⟨wa.heap.size + 2, 0, none⟩)]) rfl (enters_of Tryz.func287 (by kernel_rfl) rfl)
      (hse wa.heap.size wb nb1 nb2 nb3) (fun k hk => by have := hBz.out; omega) (by have := hBz.out; omega) (fun _ => rfl)
      (fun pre W => Boxed W w.heap.size 4 (.bool false) ∧ Hid ((pre.map tb).all snumB = true) ∧ Ext w W)
      (fun pre W => Boxed W w.heap.size 4 (.bool false) ∧ Hid ((pre.map tb).all snumB = false) ∧ Ext w W)
      ?_ ?_ ⟨nb0', rfl, xb⟩ (fun x => { tmps := #[.string s, undef, .pointer (some ⟨w.heap.size, 0, none⟩), .string x.1, .string s, .bool true, .bool false, .string s, .func (.func 287) #[] #[.pointer (some ⟨wa.heap.size + 1, 0, none⟩), .pointer (some ⟨wa.heap.size, 0, none⟩), .pointer (some ⟨wa.heap.size + 2, 0, none⟩)], .string x.1, undef, undef, undef], defers := [] }) ?_ ?_ ?_ ?_
    · rintro pre W W' ⟨h1, h2, h3⟩ ho
      have a1 := hA.out; have a2 := hBz.out
      exact ⟨only_boxed h1 ho (by rintro (e | e) <;> omega), h2, h3.then ho (by rintro g (e | e) <;> omega)⟩
    · rintro pre W W' ⟨h1, h2, h3⟩ ho
      have a1 := hA.out; have a2 := hBz.out
      exact ⟨only_boxed h1 ho (by rintro (e | e) <;> omega), h2, h3.then ho (by rintro g (e | e) <;> omega)⟩
    · intro l x W K hK
      gi_wp2
      exact hK
    · rintro l pre x W ⟨h1, h2, h3⟩
      have c1 := h1.cell
      have f1 := h1.frozen
      have hn := hnum x.1 x.2
      cases hx : snumB (byt x.1) with
      | true =>
        rw [hx] at hn
        have hg : Hid (((pre ++ [x]).map tb).all snumB = true) := by show _ = _; rw [List.map_append, List.all_append, h2.out]; simp [tb, hx]
        clear hx
        gi_wp2_with (refine ⟨trivial, ?_⟩; gi_at_call 211; refine (CallsIn.inRound l (callsIn_wide.2 (hn _))).mono ?_; rintro e w2 ⟨rfl, rfl⟩)
        exact ⟨Firm.refl _ _, Keeps.refl _ _, h1, hg, h3⟩
      | false =>
        rw [hx] at hn
        have hg : Hid (((pre ++ [x]).map tb).all snumB = false) := by show _ = _; rw [List.map_append, List.all_append]; simp [tb, hx]
        clear hx
        gi_wp2_with (refine ⟨trivial, ?_⟩; gi_at_call 211; refine (CallsIn.inRound l (callsIn_wide.2 (hn _))).mono ?_; rintro e w2 ⟨rfl, rfl⟩)
        exact ⟨Firm.setCell _ _ _ _, h1.set _, hg, h3.setNew (Nat.le_refl _) _⟩
    · rintro D xs W hD hS ⟨h1, h2, h3⟩ hK
      have c1 := h1.cell
      have f1 := h1.frozen
      gi_wp2
      have a1 := hA.out
      have a2 := hBz.out
      have hK' : (W.setCell ⟨w.heap.size, 0, none⟩ (.bool true)).heap[D]? = some (.deferred (some [])) := by
        rw [Below.heap_setCell _ _ _ _ (by simp; omega)]; exact hK
      refine ⟨by simp, .inl ⟨_, _, rfl, run_takeDeferred hK', ?_⟩⟩
      refine ⟨_, results_box rfl _ _ w.heap.size (.bool true) _ rfl ((h1.set (.bool true)).kept (grownBy_putObj' _ D _) (by simp; omega)).cell rfl rfl, ret_b ?_, (h3.setNew (p := ⟨w.heap.size, 0, none⟩) (Nat.le_refl _) _).then (putObj_only _ D _ (S := fun k => k = D) rfl) (fun g hg => by omega)⟩
      rw [HB.out, ← hS, h2.out]
    · rintro D pre W hD hS ⟨h1, h2, h3⟩ hK
      gi_wp2
      have a1 := hA.out
      have a2 := hBz.out
      refine ⟨by simp, .inl ⟨_, _, rfl, run_takeDeferred hK, ?_⟩⟩
      refine ⟨_, results_box rfl _ _ w.heap.size (.bool false) _ rfl (h1.kept (grownBy_putObj' _ D _) (by simp; omega)).cell rfl rfl, ret_b ?_, h3.then (putObj_only _ D _ (S := fun k => k = D) rfl) (fun g hg => by omega)⟩
      obtain ⟨r, hr⟩ := hS
      rw [HB.out, ← hr, List.all_append, h2.out]; rfl
end Go.Proofs.YtbioickfookjeaaGreatDoor
