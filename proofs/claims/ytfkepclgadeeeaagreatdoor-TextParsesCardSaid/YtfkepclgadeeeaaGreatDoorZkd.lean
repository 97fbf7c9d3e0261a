/-
  package filter's numbers with dots, options, words, descriptions, whatever the text.
-/
import Derived.Test.YtfkepclgadeeeaaGreatDoorQG
namespace Go.Proofs.YtfkepclgadeeeaaGreatDoor
open Go.RowKit Go.Shelf
attribute [local go_sem] Oper.semAt_some

theorem results_box {P : Program} {fn : Func} {p : Tmp} {ty : TypeId} (h : fn.results = #[.cell p ty]) (tmps : Array Value) (w : World) (g : Nat) (v : Value) (d : TypeDesc) (hp : tmps.getD p undef = .pointer (some ⟨g, 0, none⟩))
    (hc : w.cell? ⟨g, 0, none⟩ = some v) (hu : P.underlying ty = some d) (hd : (match d with | .struct _ | .array _ _ => true | _ => false) = false) : (results fn tmps).run P w = .ok v w := by
  have hp' : tmps[p]?.getD undef = .pointer (some ⟨g, 0, none⟩) := by simpa using hp
  have hagg : (isAgg ty).run P w = .ok false w := by
    unfold isAgg
    rw [Sem.run_bind, run_underlying hu w]
    cases d <;> simp_all
  simp [results, h, hp', asAddr, loadVar, Sem.run_bind, hagg, hc]
theorem only_boxed {S : Nat → Prop} {W W' : World} {k : Nat} {t : TypeId} {v : Value} (h : Boxed W k t v) (ho : Only S W W') (hn : ¬ S k) : Boxed W' k t v := (ho.block k h.lt hn).trans h

set_option maxRecDepth 100000 in
set_option maxHeartbeats 4000000 in
theorem areOptions_any (s : ByteArray) (hs : s.size ≤ 281474976710656) (w : World) :
    Calls Tryz.prog 83 #[.string s] w fun e w' => e = .returned (.bool ((splitC 59 (byt s)).all kRow)) ∧ Ext w w' := by
  have hsq := fun w => SplitSeq_any w s ⟨#[59]⟩
  have hse := fun Bs w h1 h2 h3 => split_seq 4 (by omega) Bs s hs 59 w h1 h2 h3
  have hnum := fun (x : ByteArray) (hx : x.size ≤ 281474976710656) w => isRow_any x hx w
  refine (callsIn_wide (n := 5)).1 ?_
  refine callsIn_of_wp_marks Tryz.func83 rfl trivial ?_ rfl
  simp only [Tryz.ntmps83, List.size_toArray, List.length_cons, List.length_nil, Nat.reduceAdd, Nat.reduceSub, Array.replicate_succ, Array.replicate_zero, List.push_toArray, List.append_toArray, List.nil_append, List.cons_append]
  gi_wp2_with (refine ⟨trivial, ?_⟩; gi_at_call 96; refine (callsIn_wide.2 (hsq _)).mono ?_; rintro e w2 ⟨rfl, rfl⟩)
  have nb0 : Boxed (w.alloc (.cells #[.bool false] 4)) w.heap.size 4 (.bool false) := Boxed.new w _ _
  generalize hwa : w.alloc (.cells #[.bool false] 4) = wa at nb0 ⊢
  have hza : wa.heap.size = w.heap.size + 1 := by rw [← hwa]; simp
  have xa : Ext w wa := by rw [← hwa]; exact (Ext.refl w).alloc _
  rw [← hza]
  have nb1 := ((Boxed.new wa 9 (.string s)).alloc (.cells #[.string ⟨#[59]⟩] 9)).alloc (.cells #[.int .i64 0] 3)
  have nb2 := (Boxed.new (wa.alloc (.cells #[.string s] 9)) 9 (.string ⟨#[59]⟩)).alloc (.cells #[.int .i64 0] 3)
  have nb3 := Boxed.new ((wa.alloc (.cells #[.string s] 9)).alloc (.cells #[.string ⟨#[59]⟩] 9)) 3 (.int .i64 0)
  have nb0' := ((nb0.alloc (.cells #[.string s] 9)).alloc (.cells #[.string ⟨#[59]⟩] 9)).alloc (.cells #[.int .i64 0] 3)
  have xb : Ext w (((wa.alloc (.cells #[.string s] 9)).alloc (.cells #[.string ⟨#[59]⟩] 9)).alloc (.cells #[.int .i64 0] 3)) := ((xa.alloc _).alloc _).alloc _
  have hzb : (((wa.alloc (.cells #[.string s] 9)).alloc (.cells #[.string ⟨#[59]⟩] 9)).alloc (.cells #[.int .i64 0] 3)).heap.size = wa.heap.size + 3 := by simp
  simp only [World.size_alloc] at nb2 nb3
  generalize ((wa.alloc (.cells #[.string s] 9)).alloc (.cells #[.string ⟨#[59]⟩] 9)).alloc (.cells #[.int .i64 0] 3) = wb at *
  have hA : Hid (wa.heap.size = w.heap.size + 1) := hza
  have hBz : Hid (wb.heap.size = wa.heap.size + 3) := hzb
  clear hza hzb hwa
  refine wpIn_range_box (gf := 116) (lb := #[.pointer (some ⟨wa.heap.size + 1, 0, none⟩), .pointer (some ⟨wa.heap.size, 0, none⟩), .pointer (some ⟨wa.heap.size + 2, 0, none⟩)]) rfl (enters_of Tryz.func116 (by kernel_rfl) rfl)
    (hse wa.heap.size wb nb1 nb2 nb3) (fun k hk => by have := hBz.out; omega) (by have := hBz.out; omega) (fun _ => rfl)
    (fun pre W => Boxed W w.heap.size 4 (.bool false) ∧ Hid ((pre.map tb).all kRow = true) ∧ Ext w W)
    (fun pre W => Boxed W w.heap.size 4 (.bool false) ∧ Hid ((pre.map tb).all kRow = false) ∧ Ext w W)
    ?_ ?_ ⟨nb0', rfl, xb⟩ (fun x => { tmps := #[.string s, undef, .pointer (some ⟨w.heap.size, 0, none⟩), .string x.1, .string s, .func (.func 116) #[] #[.pointer (some ⟨wa.heap.size + 1, 0, none⟩), .pointer (some ⟨wa.heap.size, 0, none⟩), .pointer (some ⟨wa.heap.size + 2, 0, none⟩)], .string x.1, undef, undef, undef], defers := [] }) ?_ ?_ ?_ ?_
  · rintro pre W W' ⟨h1, h2, h3⟩ ho
    have a1 := hA.out; have a2 := hBz.out
    exact ⟨only_boxed h1 ho (by rintro (e | e) <;> omega), h2, h3.then ho (by rintro g (e | e) <;> omega)⟩
  · rintro pre W W' ⟨h1, h2, h3⟩ ho
    have a1 := hA.out; have a2 := hBz.out
    exact ⟨only_boxed h1 ho (by rintro (e | e) <;> omega), h2, h3.then ho (by rintro g (e | e) <;> omega)⟩
  · intro l x W K hK
    gi_wp2
    exact hK
  · rintro l pre x W ⟨h1, h2, h3⟩
    have c1 := h1.cell
    have f1 := h1.frozen
    have hn := hnum x.1 x.2
    cases hx : kRow (byt x.1) with
    | true =>
      rw [hx] at hn
      have hg : Hid (((pre ++ [x]).map tb).all kRow = true) := by show _ = _; rw [List.map_append, List.all_append, h2.out]; simp [tb, hx]
      clear hx
      gi_wp2_with (refine ⟨trivial, ?_⟩; gi_at_call 93; refine (CallsIn.inRound l (callsIn_wide.2 (hn _))).mono ?_; rintro e w2 ⟨rfl, rfl⟩)
      exact ⟨Firm.refl _ _, Keeps.refl _ _, h1, hg, h3⟩
    | false =>
      rw [hx] at hn
      have hg : Hid (((pre ++ [x]).map tb).all kRow = false) := by show _ = _; rw [List.map_append, List.all_append]; simp [tb, hx]
      clear hx
      gi_wp2_with (refine ⟨trivial, ?_⟩; gi_at_call 93; refine (CallsIn.inRound l (callsIn_wide.2 (hn _))).mono ?_; rintro e w2 ⟨rfl, rfl⟩)
      exact ⟨Firm.setCell _ _ _ _, h1.set _, hg, h3.setNew (Nat.le_refl _) _⟩
  · rintro D xs W hD hS ⟨h1, h2, h3⟩ hK
    have c1 := h1.cell
    have f1 := h1.frozen
    gi_wp2
    have a1 := hA.out
    have a2 := hBz.out
    have hK' : (W.setCell ⟨w.heap.size, 0, none⟩ (.bool true)).heap[D]? = some (.deferred (some [])) := by
      rw [Below.heap_setCell _ _ _ _ (by simp; omega)]; exact hK
    refine ⟨by simp, .inl ⟨_, _, rfl, run_takeDeferred hK', ?_⟩⟩
    refine ⟨_, results_box rfl _ _ w.heap.size (.bool true) _ rfl ((h1.set (.bool true)).kept (grownBy_putObj' _ D _) (by simp; omega)).cell rfl rfl, ret_b ?_, (h3.setNew (p := ⟨w.heap.size, 0, none⟩) (Nat.le_refl _) _).then (putObj_only _ D _ (S := fun k => k = D) rfl) (fun g hg => by omega)⟩
    rw [← hS, h2.out]
  · rintro D pre W hD hS ⟨h1, h2, h3⟩ hK
    gi_wp2
    have a1 := hA.out
    have a2 := hBz.out
    refine ⟨by simp, .inl ⟨_, _, rfl, run_takeDeferred hK, ?_⟩⟩
    refine ⟨_, results_box rfl _ _ w.heap.size (.bool false) _ rfl (h1.kept (grownBy_putObj' _ D _) (by simp; omega)).cell rfl rfl, ret_b ?_, h3.then (putObj_only _ D _ (S := fun k => k = D) rfl) (fun g hg => by omega)⟩
    obtain ⟨r, hr⟩ := hS
    rw [← hr, List.all_append, h2.out]; rfl

set_option maxRecDepth 100000 in
set_option maxHeartbeats 4000000 in
theorem areNumbers_any (s : ByteArray) (hs : s.size ≤ 281474976710656) (w : World) :
    Calls Tryz.prog 95 #[.string s] w fun e w' => e = .returned (.bool ((splitC 46 (byt s)).all kNum && (byt s).contains 46)) ∧ Ext w w' := by
  have hsq := fun w => SplitSeq_any w s ⟨#[46]⟩
  have hse := fun Bs w h1 h2 h3 => split_seq 4 (by omega) Bs s hs 46 w h1 h2 h3
  have hnum := fun (x : ByteArray) (hx : x.size ≤ 281474976710656) w => isNumber_any x hx w
  have hc := fun w => Contains_one s 46 w
  generalize (byt s).contains 46 = z at hc ⊢
  refine (callsIn_wide (n := 5)).1 ?_
  refine callsIn_of_wp_marks Tryz.func95 rfl trivial ?_ rfl
  simp only [Tryz.ntmps95, List.size_toArray, List.length_cons, List.length_nil, Nat.reduceAdd, Nat.reduceSub, Array.replicate_succ, Array.replicate_zero, List.push_toArray, List.append_toArray, List.nil_append, List.cons_append]
  gi_wp2_with (refine ⟨trivial, ?_⟩; gi_at_call 96; refine (callsIn_wide.2 (hsq _)).mono ?_; rintro e w2 ⟨rfl, rfl⟩)
  have nb0 : Boxed (w.alloc (.cells #[.bool false] 4)) w.heap.size 4 (.bool false) := Boxed.new w _ _
  generalize hwa : w.alloc (.cells #[.bool false] 4) = wa at nb0 ⊢
  have hza : wa.heap.size = w.heap.size + 1 := by rw [← hwa]; simp
  have xa : Ext w wa := by rw [← hwa]; exact (Ext.refl w).alloc _
  rw [← hza]
  have nb1 := ((Boxed.new wa 9 (.string s)).alloc (.cells #[.string ⟨#[46]⟩] 9)).alloc (.cells #[.int .i64 0] 3)
  have nb2 := (Boxed.new (wa.alloc (.cells #[.string s] 9)) 9 (.string ⟨#[46]⟩)).alloc (.cells #[.int .i64 0] 3)
  have nb3 := Boxed.new ((wa.alloc (.cells #[.string s] 9)).alloc (.cells #[.string ⟨#[46]⟩] 9)) 3 (.int .i64 0)
  have nb0' := ((nb0.alloc (.cells #[.string s] 9)).alloc (.cells #[.string ⟨#[46]⟩] 9)).alloc (.cells #[.int .i64 0] 3)
  have xb : Ext w (((wa.alloc (.cells #[.string s] 9)).alloc (.cells #[.string ⟨#[46]⟩] 9)).alloc (.cells #[.int .i64 0] 3)) := ((xa.alloc _).alloc _).alloc _
  have hzb : (((wa.alloc (.cells #[.string s] 9)).alloc (.cells #[.string ⟨#[46]⟩] 9)).alloc (.cells #[.int .i64 0] 3)).heap.size = wa.heap.size + 3 := by simp
  simp only [World.size_alloc] at nb2 nb3
  generalize ((wa.alloc (.cells #[.string s] 9)).alloc (.cells #[.string ⟨#[46]⟩] 9)).alloc (.cells #[.int .i64 0] 3) = wb at *
  have hA : Hid (wa.heap.size = w.heap.size + 1) := hza
  have hBz : Hid (wb.heap.size = wa.heap.size + 3) := hzb
  clear hza hzb hwa
  refine wpIn_range_box (gf := 116) (lb := #[.pointer (some ⟨wa.heap.size + 1, 0, none⟩), .pointer (some ⟨wa.heap.size, 0, none⟩), .pointer (some ⟨wa.heap.size + 2, 0, none⟩)]) rfl (enters_of Tryz.func116 (by kernel_rfl) rfl)
    (hse wa.heap.size wb nb1 nb2 nb3) (fun k hk => by have := hBz.out; omega) (by have := hBz.out; omega) (fun _ => rfl)
    (fun pre W => Boxed W w.heap.size 4 (.bool false) ∧ Hid ((pre.map tb).all kNum = true) ∧ Ext w W)
    (fun pre W => Boxed W w.heap.size 4 (.bool false) ∧ Hid ((pre.map tb).all kNum = false) ∧ Ext w W)
    ?_ ?_ ⟨nb0', rfl, xb⟩ (fun x => { tmps := #[.string s, undef, .pointer (some ⟨w.heap.size, 0, none⟩), .string x.1, .string s, .func (.func 116) #[] #[.pointer (some ⟨wa.heap.size + 1, 0, none⟩), .pointer (some ⟨wa.heap.size, 0, none⟩), .pointer (some ⟨wa.heap.size + 2, 0, none⟩)], .string x.1, undef, undef, undef, undef, undef], defers := [] }) ?_ ?_ ?_ ?_
  · rintro pre W W' ⟨h1, h2, h3⟩ ho
    have a1 := hA.out; have a2 := hBz.out
    exact ⟨only_boxed h1 ho (by rintro (e | e) <;> omega), h2, h3.then ho (by rintro g (e | e) <;> omega)⟩
  · rintro pre W W' ⟨h1, h2, h3⟩ ho
    have a1 := hA.out; have a2 := hBz.out
    exact ⟨only_boxed h1 ho (by rintro (e | e) <;> omega), h2, h3.then ho (by rintro g (e | e) <;> omega)⟩
  · intro l x W K hK
    gi_wp2
    exact hK
  · rintro l pre x W ⟨h1, h2, h3⟩
    have c1 := h1.cell
    have f1 := h1.frozen
    have hn := hnum x.1 x.2
    cases hx : kNum (byt x.1) with
    | true =>
      rw [hx] at hn
      have hg : Hid (((pre ++ [x]).map tb).all kNum = true) := by show _ = _; rw [List.map_append, List.all_append, h2.out]; simp [tb, hx]
      clear hx
      gi_wp2_with (refine ⟨trivial, ?_⟩; gi_at_call 107; refine (CallsIn.inRound l (callsIn_wide.2 (hn _))).mono ?_; rintro e w2 ⟨rfl, rfl⟩)
      exact ⟨Firm.refl _ _, Keeps.refl _ _, h1, hg, h3⟩
    | false =>
      rw [hx] at hn
      have hg : Hid (((pre ++ [x]).map tb).all kNum = false) := by show _ = _; rw [List.map_append, List.all_append]; simp [tb, hx]
      clear hx
      gi_wp2_with (refine ⟨trivial, ?_⟩; gi_at_call 107; refine (CallsIn.inRound l (callsIn_wide.2 (hn _))).mono ?_; rintro e w2 ⟨rfl, rfl⟩)
      exact ⟨Firm.setCell _ _ _ _, h1.set _, hg, h3.setNew (Nat.le_refl _) _⟩
  · rintro D xs W hD hS ⟨h1, h2, h3⟩ hK
    have c1 := h1.cell
    have f1 := h1.frozen
    gi_wp2_with (refine ⟨trivial, ?_⟩; gi_at_call 108; refine (callsIn_wide.2 (hc _)).mono ?_; rintro e W ⟨rfl, rfl⟩)
    have a1 := hA.out
    have a2 := hBz.out
    have hK' : (W.setCell ⟨w.heap.size, 0, none⟩ (.bool z)).heap[D]? = some (.deferred (some [])) := by
      rw [Below.heap_setCell _ _ _ _ (by simp; omega)]; exact hK
    refine ⟨by simp, .inl ⟨_, _, rfl, run_takeDeferred hK', ?_⟩⟩
    refine ⟨_, results_box rfl _ _ w.heap.size (.bool z) _ rfl ((h1.set (.bool z)).kept (grownBy_putObj' _ D _) (by simp; omega)).cell rfl rfl, ret_b ?_, (h3.setNew (p := ⟨w.heap.size, 0, none⟩) (Nat.le_refl _) _).then (putObj_only _ D _ (S := fun k => k = D) rfl) (fun g hg => by omega)⟩
    rw [← hS, h2.out]; rfl
  · rintro D pre W hD hS ⟨h1, h2, h3⟩ hK
    gi_wp2
    have a1 := hA.out
    have a2 := hBz.out
    refine ⟨by simp, .inl ⟨_, _, rfl, run_takeDeferred hK, ?_⟩⟩
    refine ⟨_, results_box rfl _ _ w.heap.size (.bool false) _ rfl (h1.kept (grownBy_putObj' _ D _) (by simp; omega)).cell rfl rfl, ret_b ?_, h3.then (putObj_only _ D _ (S := fun k => k = D) rfl) (fun g hg => by omega)⟩
    obtain ⟨r, hr⟩ := hS
    rw [← hr, List.all_append, h2.out]; rfl

set_option maxRecDepth 100000 in
set_option maxHeartbeats 2000000 in
theorem isWord_any (s : ByteArray) (hs : s.size ≤ 281474976710656) (w : World) :
    Calls Tryz.prog 82 #[.string s] w fun e w' => e = .returned (.bool (kWord (byt s))) ∧ Ext w w' := by
  have hr := fun w => isRow_any s hs w
  have hn := fun w => areNumbers_any s hs w
  have HV : Hid (kWord (byt s) = (kRow (byt s) && headK kLet (byt s) || ((splitC 46 (byt s)).all kNum && (byt s).contains 46))) := rfl
  generalize ((splitC 46 (byt s)).all kNum && (byt s).contains 46) = z at hn HV
  cases h1 : kRow (byt s) with
  | false =>
    rw [h1] at hr HV
    clear h1
    go_enter Tryz.func82, Tryz.ntmps82
    go_wp2_with (first
      | (go_at_call 93; refine (hr _).mono ?_; rintro e w2 ⟨rfl, rfl⟩)
      | (go_at_call 95; refine (hn _).mono ?_; rintro e w2 ⟨rfl, x2⟩))
    go_ret
    exact ⟨ret_b (by rw [HV.out]; simp), x2⟩
  | true =>
    rw [h1] at hr
    have h0 : 0 < s.size := by
      rw [kRow, Bool.and_eq_true, byt_empty] at h1
      have h2 := h1.2
      rcases Nat.eq_zero_or_pos s.size with h | h
      · rw [h] at h2; simp at h2
      · exact h
    have hix : ∀ wx, (Instr.index 9 (.string s) (.int .i64 0)).run Tryz.prog wx = .ok (.int .u8 s[0].toNat) wx := idx_run s 0 h0
    rw [h1, headK_at kLet s h0] at HV
    clear h1
    generalize s[0] = b at hix HV
    have hcL := fun w => kLet_any b w
    clear h0
    cases h2 : kLet b with
    | false =>
      rw [h2] at hcL HV
      clear h2
      go_enter Tryz.func82, Tryz.ntmps82
      go_wp2_with (first
        | (go_at_call 93; refine (hr _).mono ?_; rintro e w2 ⟨rfl, rfl⟩)
        | (go_at_call 94; refine (hcL _).mono ?_; rintro e w2 ⟨rfl, rfl⟩)
        | (go_at_call 95; refine (hn _).mono ?_; rintro e w2 ⟨rfl, x2⟩))
      go_ret
      exact ⟨ret_b (by rw [HV.out]; simp), x2⟩
    | true =>
      rw [h2] at hcL HV
      clear h2
      go_enter Tryz.func82, Tryz.ntmps82
      go_wp2_with (first
        | (go_at_call 93; refine (hr _).mono ?_; rintro e w2 ⟨rfl, rfl⟩)
        | (go_at_call 94; refine (hcL _).mono ?_; rintro e w2 ⟨rfl, rfl⟩))
      go_ret
      exact ⟨ret_b (by rw [HV.out]; simp), Ext.refl _⟩

set_option maxRecDepth 100000 in
set_option maxHeartbeats 2000000 in
theorem isDesc_any (s : ByteArray) (hs : s.size ≤ 281474976710656) (w : World) :
    Calls Tryz.prog 64 #[.string s] w fun e w' => e = .returned (.bool (kDesc (byt s))) ∧ Ext w w' := by
  have hC := fun w => Cut_one s hs 59 w
  go_enter Tryz.func64, Tryz.ntmps64
  go_wp2_with fail
  go_at_call 81
  refine (hC _).mono ?_
  rintro _ w1 ⟨x1, h⟩
  rcases h with ⟨h1, rfl⟩ | ⟨o, h1, rfl⟩
  · have hW := fun w => isWord_any s hs w
    have HV : Hid (kDesc (byt s) = kWord (byt s)) := by show _ = _; unfold kDesc; rw [(no_at 59 s h1).1]; simp
    clear hC h1
    cases h2 : kWord (byt s) with
    | false =>
      rw [h2] at hW HV
      clear h2
      go_wp2_with (go_at_call 82; refine (hW _).mono ?_; rintro e w2 ⟨rfl, x2⟩)
      go_ret
      exact ⟨ret_b (by rw [HV.out]), x1.trans x2⟩
    | true =>
      rw [h2] at hW HV
      clear h2
      go_wp2_with (go_at_call 82; refine (hW _).mono ?_; rintro e w2 ⟨rfl, x2⟩)
      go_ret
      exact ⟨ret_b (by rw [HV.out]), x1.trans x2⟩
  · obtain ⟨ho, hsp, _⟩ := cut_at 59 s o h1
    have hW := fun w => isWord_any (s.extract 0 o) (by simp; omega) w
    have hO := fun w => areOptions_any (s.extract (o + 1) s.size) (by simp; omega) w
    have HV : Hid (kDesc (byt s) = (kWord (byt (s.extract 0 o)) && (splitC 59 (byt (s.extract (o + 1) s.size))).all kRow)) := by show _ = _; unfold kDesc; rw [hsp]
    clear hC h1 hsp
    generalize (splitC 59 (byt (s.extract (o + 1) s.size))).all kRow = z at hO HV
    cases h2 : kWord (byt (s.extract 0 o)) with
    | false =>
      rw [h2] at hW HV
      clear h2
      go_wp2_with (go_at_call 82; refine (hW _).mono ?_; rintro e w2 ⟨rfl, x2⟩)
      go_ret
      exact ⟨ret_b (by rw [HV.out]; rfl), x1.trans x2⟩
    | true =>
      rw [h2] at hW HV
      clear h2
      go_wp2_with (first
        | (go_at_call 82; refine (hW _).mono ?_; rintro e w2 ⟨rfl, x2⟩)
        | (go_at_call 83; refine (hO _).mono ?_; rintro e w3 ⟨rfl, x3⟩))
      go_ret
      exact ⟨ret_b (by rw [HV.out]; simp), (x1.trans x2).trans x3⟩
end Go.Proofs.YtfkepclgadeeeaaGreatDoor
