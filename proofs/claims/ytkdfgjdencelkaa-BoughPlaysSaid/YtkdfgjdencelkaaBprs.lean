/-
  pairs, ints: what an iterator tells as two lists; two lists held against each other.
-/
import Derived.Test.YtkdfgjdencelkaaBstI
namespace Go.Proofs.Ytkdfgjdencelkaa
open Go.RowKit Go.Shelf
attribute [local go_sem] Oper.semAt_some
theorem infoI : (Try.prog.info? 3).map (fun i => (i.zero, i.size, i.bytes)) = some (some (.int .i64 0), 1, 8) := by kernel_rfl
theorem oneI (x : Int64) : (I6 x).oneCell' = true := rfl
/-- a row in a box that grows by one -/
theorem gacc_push {α : Type} {enc : α → Value} {t e : TypeId} {z : Value} (hi : (Try.prog.info? e).map (fun i => (i.zero, i.size, i.bytes)) = some (some z, 1, 8)) (ht : Try.prog.underlying t = some (.slice e)) (hzs : z.cells.size = 1) (h1c : ∀ x : α, (enc x).oneCell' = true) (hte : t ≠ e)
    (W : World) (m fb : Nat) (u : Value) (l : List α) (h1 : Boxed W fb t u) (h2 : RowE e enc W (fun k => m ≤ k) u l) (hm : m ≤ fb) (ty : TypeId) (x : α) (v : Value) (hv : v = enc x) (hl : l.length ≤ 17592186044415) :
    ∃ v' W', (Builtin.append_ #[t, t] ty #[u, .slice (some ⟨W.heap.size, 0, none⟩) 1 1]).run Try.prog (W.alloc (.cells #[v] e)) = .ok v' W' ∧ (∃ a n c, v' = .slice a n c) ∧ (W'.cell? ⟨fb, 0, none⟩ = some u ∧ W'.frozen? ⟨fb, 0, none⟩ = false) ∧
      Hid (Boxed (W'.setCell ⟨fb, 0, none⟩ v') fb t v' ∧ RowE e enc (W'.setCell ⟨fb, 0, none⟩ v') (fun k => m ≤ k) v' (l ++ [x]) ∧ Only (fun k => k = fb ∨ own u k) W (W'.setCell ⟨fb, 0, none⟩ v') ∧ (∀ k, own v' k → own u k ∨ W.heap.size ≤ k)) := by
  subst hv
  have hmW : m ≤ W.heap.size := Nat.le_trans hm (Nat.le_of_lt h1.lt)
  have ha := BI.box_apart h1 h2 hte
  have h2m : RowE e enc (W.alloc (.cells #[enc x] e)) (own u) u l := Row.alloc (Row.min h2) _
  obtain ⟨W', a, cap, hr, r', o'⟩ := run_appendE hi ht hzs _ _ t ty u l h2m _ 1 [x] (srcB ht h1c _ W.heap.size _ [x] 1 1 (heap_alloc_new W _) rfl rfl) rfl (by simp; omega) (by decide)
  have o'' : Only (own u) W W' := ((Ext.refl W).alloc _).only.then o'
  have hbx' : Boxed W' fb t u := (o''.block fb h1.lt ha).trans h1
  have hup : ∀ k, own (.slice a (l.length + 1) cap) k → own u k ∨ W.heap.size ≤ k := fun k hk => by
    rcases r'.2 k hk with h | h
    · exact .inl h
    · simp at h; exact .inr (by omega)
  refine ⟨_, W', hr, ⟨_, _, _, rfl⟩, ⟨hbx'.cell, hbx'.frozen⟩, hbx'.set _, ?_, ?_, hup⟩
  · have h9 := Row.other (p := ⟨fb, 0, none⟩) r' hbx' hte (.slice a (l.length + 1) cap)
    refine ⟨h9.1, fun k hk => ?_⟩
    rcases hup k hk with h | h
    · exact h2.2 k h
    · exact Nat.le_trans hmW h
  · exact (o''.mono (fun _ _ h => .inr h)).then ((Only.refl (fun k => k = fb ∨ own u k) W').setCell (p := ⟨fb, 0, none⟩) (.inl (.inl rfl)) _)
/-- two boxes with rows of numbers of their own -/
def Two (m b4 b5 : Nat) (W : World) (l1 l2 : List Int64) : Prop := ∃ u1 u2, Boxed W b4 48 u1 ∧ RowE 3 I6 W (fun k => m ≤ k) u1 l1 ∧ Boxed W b5 48 u2 ∧ RowE 3 I6 W (fun k => m ≤ k) u2 l2 ∧ ∀ k, own u1 k → ¬ own u2 k
theorem row_keep {α : Type} {enc : α → Value} {e : TypeId} {W W' : World} {S : Nat → Prop} {v : Value} {l : List α} (h : RowE e enc W S v l) (k : ∀ (g : Nat) (c : Array Value), own v g → W.heap[g]? = some (Obj.cells c e (0, 0)) → W'.heap[g]? = some (Obj.cells c e (0, 0))) : RowE e enc W' S v l := by
  refine ⟨⟨h.1.1, ?_⟩, h.2⟩
  rcases h.1.2 with h1 | ⟨g, cap, cur, rfl, h2, hg, h3⟩
  · exact .inl h1
  · exact .inr ⟨g, cap, cur, rfl, h2, k g _ rfl hg, h3⟩
theorem Two.keep {m b4 b5 : Nat} {W W' : World} {l1 l2 : List Int64} (h : Two m b4 b5 W l1 l2) (k : ∀ (g : Nat) (c : Array Value) (t : TypeId) (fz : Nat × Nat), W.heap[g]? = some (Obj.cells c t fz) → t = 3 ∨ t = 48 → W'.heap[g]? = some (Obj.cells c t fz)) : Two m b4 b5 W' l1 l2 := by
  obtain ⟨u1, u2, h1, h2, h3, h4, h5⟩ := h
  exact ⟨u1, u2, k _ _ _ _ h1 (.inr rfl), row_keep h2 (fun g c _ hg => k g c _ _ hg (.inl rfl)), k _ _ _ _ h3 (.inr rfl), row_keep h4 (fun g c _ hg => k g c _ _ hg (.inl rfl)), h5⟩
theorem eq_nilp (fn : Fn) (a b : Array Value) (w : World) : (binOp .eql 70 (.func fn a b) .nilFunc).run Try.prog w = .ok (.bool false) w := by
  have hu : Try.prog.underlying 70 = _ := Try.underlying70
  have h : ∀ d : Nat, (Op.equalIn (d + 1) 70 (.func fn a b) .nilFunc).run Try.prog w = .ok false w := fun d => by
    simp [Op.equalIn, run_underlying hu]
  simp only [binOp]
  simp [Op.equal, Op.maxDepth, h 9999]
section
set_option maxRecDepth 100000
set_option maxHeartbeats 8000000
theorem pairs_any (w : World) (fb sb : Nat) (s : Bool) (st : List BI.Wt) (hwk : BI.WkAt w fb sb s st) (xs : List (Int64 × Int64)) (hxs : Tr.rest s (BI.trs st) = xs) (hlen : xs.length ≤ 17592186044415) :
    Calls Try.prog 33 #[BI.wkF fb sb] w fun e w' => ∃ u1 u2, e = .returned (.tuple #[u1, u2]) ∧ RowE 3 I6 w' (fun k => w.heap.size ≤ k) u1 (xs.map (·.1)) ∧ RowE 3 I6 w' (fun k => w.heap.size ≤ k) u2 (xs.map (·.2)) ∧ Ext w w' := by
  refine (callsIn_wide (n := 5)).1 ?_
  refine callsIn_of_wp_marks Try.func33 rfl trivial ?_ rfl
  simp only [Try.ntmps33, List.size_toArray, List.length_cons, List.length_nil, Nat.reduceAdd, Nat.reduceSub, Array.replicate_succ, Array.replicate_zero, List.push_toArray, List.append_toArray, List.nil_append, List.cons_append]
  have hnil := eq_nilp (.func 88) #[] #[.pointer (some ⟨fb, 0, none⟩), .pointer (some ⟨sb, 0, none⟩)]
  gi_wp2_with fail
  obtain ⟨w5, hw5⟩ : ∃ W, W = (w.alloc (.cells #[.slice none 0 0] 48)).alloc (.cells #[.slice none 0 0] 48) := ⟨_, rfl⟩
  have x5 : Hid (Ext w w5) := by rw [hw5]; exact ((Ext.refl w).alloc _).alloc _
  have h4 : Hid (Boxed w5 w.heap.size 48 (.slice none 0 0)) := by rw [hw5]; exact (Boxed.new w _ _).alloc _
  have h5 : Hid (Boxed w5 (w.heap.size + 1) 48 (.slice none 0 0)) := by
    rw [hw5]
    have h := Boxed.new (w.alloc (.cells #[.slice none 0 0] 48)) 48 (.slice none 0 0)
    rwa [World.size_alloc] at h
  rw [← hw5]
  clear hw5
  have hsbl : Hid (sb < w.heap.size) := by obtain ⟨_, _, _, h, _⟩ := hwk; exact Boxed.lt h
  have hseq := BI.seq_any 4 (by omega) w5 fb sb s st (hwk.ext x5.out) (by rw [hxs]; exact hlen)
  rw [hxs] at hseq
  obtain ⟨b4, hb4⟩ : ∃ n, Hid (n = w.heap.size) := ⟨_, rfl⟩
  obtain ⟨b5, hb5⟩ : ∃ n, Hid (n = w.heap.size + 1) := ⟨_, rfl⟩
  rw [← hb5.out] at h5 ⊢
  rw [← hb4.out] at h4 ⊢
  have hlenh : Hid (xs.length ≤ 17592186044415) := hlen
  clear hwk hxs hlen
  refine wpIn_range_rel (n := 5) (gf := 88) (lb := #[.pointer (some ⟨fb, 0, none⟩), .pointer (some ⟨sb, 0, none⟩)]) rfl (enters_of Try.func88 (by kernel_rfl) rfl) hseq
    (fun _ _ h => h.firm) (fun _ _ h => OwnW.ext h) (fun _ _ _ h k => h.trans k) (fun W l o o' h1 h2 => LeftG.put W l o o' h1 h2) (fun _ => rfl)
    (fun pre W => Two w.heap.size b4 b5 W (pre.map (·.1)) (pre.map (·.2)) ∧ Ext w W)
    (fun _ _ _ => False) ?stI (fun _ => ⟨fun _ _ _ h _ => h, fun _ _ _ _ _ _ _ _ h => h⟩) ⟨⟨_, _, h4.out, row_nil _ _ _ _, h5.out, row_nil _ _ _ _, fun k hk => by simp [own, Value.ownBlock] at hk⟩, x5.out⟩ ?a1 ?assign ?body ?done ?stop
  case assign =>
    intro l x W K hK
    dsimp only [BI.encB]
    gi_wp2
    exact hK
  case stop => intro _ _ _ _ _ _ h; exact h.elim
  case stI =>
    refine ⟨fun s W W' h o => ⟨h.1.keep (fun g c t fz hg ht => BI.KeepC.own o _ _ _ _ hg (.inl (by rcases ht with rfl | rfl <;> decide))), BI.ext_own h.2 o x5.out.size⟩, fun s W l o o' hl h1 h2 h => ⟨h.1.keep (fun g c t fz hg ht => BI.KeepC.put (N := w5.heap.size) W l o o' h1 h2 _ _ _ _ hg (.inl (by rcases ht with rfl | rfl <;> decide))), BI.ext_put o' h.2 (Nat.le_trans x5.out.size hl)⟩⟩
  case body =>
    intro l pre x W hp hI
    have hpl : Hid (pre.length ≤ 17592186044415) := by
      have h1 := hp.length_le
      have h2 := hlenh.out
      rw [List.length_append] at h1
      show _ ≤ _
      omega
    obtain ⟨⟨u1, u2, q1, q2, q3, q4, q5⟩, xW⟩ := hI
    obtain ⟨a1, c1, e1⟩ := row_slice q2
    obtain ⟨a2, c2, e2⟩ := row_slice q4
    obtain ⟨n0, hn0⟩ : ∃ n, Hid (pre.length = n) := ⟨_, rfl⟩
    rw [List.length_map, hn0.out] at e1 e2
    subst e1 e2
    obtain ⟨k, v⟩ := x
    obtain ⟨v1, W1, hrun1, ⟨va1, vn1, vc1, rfl⟩, ⟨cb1, fb1⟩, hpost1⟩ := gacc_push infoI Try.underlying48 rfl oneI (by decide) W w.heap.size b4 _ _ q1 q2 (by rw [hb4.out]; exact Nat.le_refl _) 48 k (.int .i64 k.toInt) rfl (by simp; exact hpl.out)
    have d1 := q1.cell
    obtain ⟨W2, hW2⟩ : ∃ W2, W2 = W1.setCell ⟨b4, 0, none⟩ (.slice va1 vn1 vc1) := ⟨_, rfl⟩
    rw [← hW2] at hpost1
    obtain ⟨p1, p2, p3, p4⟩ := hpost1.out
    have n45 : b5 ≠ b4 := by have := hb4.out; have := hb5.out; omega
    have ap1 := BI.box_apart q3 q2 (by decide)
    have ap2 := BI.box_apart q1 q4 (by decide)
    have r5 : Boxed W2 b5 48 (.slice a2 n0 c2) := (p3.block b5 q3.lt (fun h => h.elim n45 ap1)).trans q3
    have r4 : RowE 3 I6 W2 (fun g => w.heap.size ≤ g) (.slice a2 n0 c2) (pre.map (·.2)) := by
      have h9 := Row.kept (Row.min q4) p3 (fun g hg h => h.elim (fun e => ap2 (by rw [← e]; exact hg)) (fun h => q5 g h hg))
      exact ⟨h9.1, q4.2⟩
    obtain ⟨v2, W3, hrun2, ⟨va2, vn2, vc2, rfl⟩, ⟨cb2, fb2⟩, hpost2⟩ := gacc_push infoI Try.underlying48 rfl oneI (by decide) W2 w.heap.size b5 _ _ r5 r4 (by rw [hb5.out]; exact Nat.le_succ _) 48 v (.int .i64 v.toInt) rfl (by simp; exact hpl.out)
    have d2 := r5.cell
    obtain ⟨W4, hW4⟩ : ∃ W4, W4 = W3.setCell ⟨b5, 0, none⟩ (.slice va2 vn2 vc2) := ⟨_, rfl⟩
    rw [← hW4] at hpost2
    obtain ⟨p5, p6, p7, p8⟩ := hpost2.out
    have hsz : W.heap.size ≤ W2.heap.size := p3.size
    have hu1 : ∀ g, own (.slice a1 n0 c1) g → g < W.heap.size := fun g hg => Row.lt q2 hg
    have hu2 : ∀ g, own (.slice a2 n0 c2) g → g < W.heap.size := fun g hg => Row.lt q4 hg
    have hv1 : ∀ g, own (.slice va1 vn1 vc1) g → g < W2.heap.size := fun g hg => Row.lt p2 hg
    have dj : ∀ g, own (.slice va1 vn1 vc1) g → ¬ own (.slice a2 n0 c2) g := fun g hg h => by
      rcases p4 g hg with h1 | h1
      · exact q5 g h1 h
      · have := hu2 g h; omega
    have ap3 := BI.box_apart p1 r4 (by decide)
    have ap4 := BI.box_apart r5 p2 (by decide)
    have s4 : Boxed W4 b4 48 (.slice va1 vn1 vc1) := (p7.block b4 p1.lt (fun h => h.elim (fun e => n45 e.symm) ap3)).trans p1
    have t4 : RowE 3 I6 W4 (fun g => w.heap.size ≤ g) (.slice va1 vn1 vc1) (pre.map (·.1) ++ [k]) := by
      have h9 := Row.kept (Row.min p2) p7 (fun g hg h => h.elim (fun e => ap4 (by rw [← e]; exact hg)) (fun h => dj g hg h))
      exact ⟨h9.1, p2.2⟩
    have fin : Hid (Firm w5.heap.size W W4 ∧ LeftG 110 119 sb W W4 ∧ Two w.heap.size b4 b5 W4 (((pre ++ [(k, v)]).map (·.1))) (((pre ++ [(k, v)]).map (·.2))) ∧ Ext w W4) := by
      have hs := hsbl.out
      have hb4' := hb4.out
      have hb5' := hb5.out
      refine ⟨(p3.firm ?_).trans (p7.firm ?_), (LeftG.only p3 ?_).trans (LeftG.only p7 ?_), ⟨_, _, s4, by rw [List.map_append]; exact t4, p5, by rw [List.map_append]; exact p6, ?_⟩, Ext.then (Ext.then xW p3 ?_) p7 ?_⟩
      · rintro g o (e | hg) ho
        · rw [e, show W.heap[b4]? = _ from q1] at ho; cases ho; rfl
        · obtain ⟨c, hc⟩ := BI.own_type q2 g hg; rw [hc] at ho; cases ho; rfl
      · rintro g o (e | hg) ho
        · rw [e, show W2.heap[b5]? = _ from r5] at ho; cases ho; rfl
        · obtain ⟨c, hc⟩ := BI.own_type r4 g hg; rw [hc] at ho; cases ho; rfl
      · rintro g c t fz (e | hg) ho
        · rw [e, show W.heap[b4]? = _ from q1] at ho; cases ho; exact ⟨by decide, by decide, by omega⟩
        · have := q2.2 g hg
          obtain ⟨c', hc⟩ := BI.own_type q2 g hg; rw [hc] at ho; cases ho; exact ⟨by decide, by decide, by omega⟩
      · rintro g c t fz (e | hg) ho
        · rw [e, show W2.heap[b5]? = _ from r5] at ho; cases ho; exact ⟨by decide, by decide, by omega⟩
        · have := r4.2 g hg
          obtain ⟨c', hc⟩ := BI.own_type r4 g hg; rw [hc] at ho; cases ho; exact ⟨by decide, by decide, by omega⟩
      · intro g hg h
        rcases p8 g h with h1 | h1
        · exact dj g hg h1
        · have := hv1 g hg; omega
      · rintro g (e | hg)
        · omega
        · exact q2.2 g hg
      · rintro g (e | hg)
        · omega
        · exact r4.2 g hg
    rw [hW2] at hrun2 d2
    rw [show (W1.setCell ⟨b4, 0, none⟩ (.slice va1 vn1 vc1)).heap.size = W1.heap.size by simp [World.setCell]] at hrun2
    have hrun1h : Hid _ := hrun1
    have hrun2h : Hid _ := hrun2
    clear hrun1 hrun2 hpost1 hpost2 p1 p2 p3 p4 p5 p6 p7 p8 q1 q2 q3 q4 q5 r4 r5 s4 t4 hu1 hu2 hv1 dj ap1 ap2 ap3 ap4 xW hp hseq n45 hsz
    simp only [I6]
    gi_wp2_with (gi_at_builtin; refine Hid.out ?_)
    refine wpListIn_app rfl _ _ _ _ rfl _ _ rfl rfl _ _ hrun1h.out ?_
    gi_wp2_with (gi_at_builtin; refine Hid.out ?_)
    refine wpListIn_app rfl _ _ _ _ rfl _ _ rfl rfl _ _ hrun2h.out ?_
    gi_wp2
    rw [← hW4]
    exact fin.out
  case done =>
    intro D W hD hI hK
    obtain ⟨⟨u1, u2, q1, q2, q3, q4, q5⟩, xW⟩ := hI
    have c4 := q1.cell
    have c5 := q3.cell
    have hKh : Hid (W.heap[D]? = some (.deferred (some []))) := hK
    have fin : Hid (RowE 3 I6 W (fun k => w.heap.size ≤ k) u1 (xs.map (·.1)) ∧ RowE 3 I6 W (fun k => w.heap.size ≤ k) u2 (xs.map (·.2)) ∧ Ext w W) := ⟨q2, q4, xW⟩
    have mixed := (by kernel_rfl : Try.prog.follows Departure.mixedOrders = true)
    clear q1 q2 q3 q4 q5 xW hK hseq
    gi_wp2_with fail
    refine wpIn_mono (Q := NoPanic _) ?_ NoPanic.imp
    gi_region_with_o (fail)
    all_goals
      refine NoPanic.normal ?_
      dsimp only [Act.put, List.getElem_toArray, List.getElem_cons_zero, List.getElem_cons_succ]
      simp only [List.setIfInBounds_toArray, List.set_cons_zero, List.set_cons_succ]
      gi_wp2
      refine ⟨by simp, .inl ⟨_, _, rfl, run_takeDeferred (w := W.drew) hKh.out, ?_⟩⟩
      refine ⟨_, results_tmp2 rfl _ _ _, ⟨u1, u2, rfl, ?_, ?_, ?_⟩⟩
      · exact row_keep (fin.out.1.ext (Ext.refl W).drew) (fun g c _ hg => BI.KeepC.put (N := w5.heap.size) W.drew D _ _ hKh.out rfl _ _ _ _ hg (.inl (by decide)))
      · exact row_keep (fin.out.2.1.ext (Ext.refl W).drew) (fun g c _ hg => BI.KeepC.put (N := w5.heap.size) W.drew D _ _ hKh.out rfl _ _ _ _ hg (.inl (by decide)))
      · exact BI.ext_put _ fin.out.2.2.drew (Nat.le_trans x5.out.size hD)
theorem ints_eq (w : World) (va vb : Value) (l : List Int64) (ha : Sl I6 w va l) (hb : Sl I6 w vb l) : Calls Try.prog 35 #[va, vb] w fun e w' => e = .returned (.bool true) ∧ Ext w w' := by
  have hah : Hid (Sl I6 w va l) := ha
  have hbh : Hid (Sl I6 w vb l) := hb
  obtain ⟨a, na, ca, rfl, hna⟩ := ha.shape
  obtain ⟨b, nb, cb, rfl, hnb⟩ := hb.shape
  obtain rfl : na = nb := by rw [hna.out, hnb.out]
  have hm : na ≤ 9223372036854775807 := by have h9 := ha.len; unfold maxLen at h9; omega
  clear ha hb
  go_enter Try.func35, Try.ntmps35
  go_wp2_with fail
  go_loopw [5] (fun x5 wr => ∃ k : Nat, k ≤ na ∧ x5 = .int .i64 k ∧ Hid (Ext w wr)) (fun x5 _ => na - (intOf x5).toNat)
  case atStart => exact ⟨0, Nat.zero_le _, rfl, Ext.refl w⟩
  case round =>
    obtain ⟨k, hk, rfl, xw⟩ := hrel
    by_cases hlt : k < na
    · have hki : (k : Int) < (na : Int) := by omega
      obtain ⟨g, o, rfl, c1⟩ := (hah.out.ext xw.out).at k (by have := hna.out; omega)
      obtain ⟨g', o', rfl, c2⟩ := (hbh.out.ext xw.out).at k (by have := hna.out; omega)
      obtain ⟨z, hz⟩ : ∃ z, (l[k]'(by have := hna.out; omega)) = z := ⟨_, rfl⟩
      rw [hz] at c1 c2
      simp only [I6] at c1 c2
      clear hz
      generalize z.toInt = y at *
      go_wp2_with fail
      go_region_held3 (fun W => W.cell? ⟨g, o + k, none⟩ = some (.int .i64 y) ∧ W.cell? ⟨g', o' + k, none⟩ = some (.int .i64 y)) (go_keep) ((fail))
      all_goals go_wp2
      all_goals go_roundw
      case rel => exact ⟨k + 1, hlt, by go_num, xw.out.drew⟩
      case measure => simp [intOf]; omega
    · obtain rfl : k = na := by omega
      go_wp2
      go_ret
      exact ⟨rfl, xw.out⟩
end
end Go.Proofs.Ytkdfgjdencelkaa
