/-
  The contract of lay: an item that is not made of others.
-/
import Derived.Test.YtmcodhdphdckkaaGreatDoorBclosed
import Derived.Test.YtmcodhdphdckkaaGreatDoorBapp
import Derived.Deep.RegionHeld3
import Derived.Shelf.RegionOpenPlain
namespace Go.Proofs.YtmcodhdphdckkaaGreatDoor
open Go.RowKit Go.Shelf

/-- the writer's own block, and what its cells hold -/
theorem wr_cells {w : World} {g : Nat} {v1 v2 : Value} (hg : w.heap[g]? = some (.cells #[v1, v2] 86 (0, 0))) : w.cell? ⟨g, 0, none⟩ = some v1 ∧ w.cell? ⟨g, 1, none⟩ = some v2 ∧ w.frozen? ⟨g, 0, none⟩ = false ∧ w.frozen? ⟨g, 1, none⟩ = false :=
  ⟨cell_of_row w g 0 _ _ _ hg, cell_of_row w g 1 _ _ _ hg, by simp [World.frozen?, hg], by simp [World.frozen?, hg]⟩
theorem row_ne {w : World} {S : Nat → Prop} {e t : TypeId} {sz n g : Nat} {v : Value} {xs : List Value} {c : Array Value} {fz : Nat × Nat} (h : Row w S e sz v n xs) (hg : w.heap[g]? = some (.cells c t fz)) (hne : t ≠ e) : ¬ own v g := by
  intro ho
  rcases h.1.2 with ⟨rfl, _⟩ | ⟨g', cap, cur, rfl, _, hgg, _⟩
  · simp [own, Value.ownBlock] at ho
  · simp only [own, Value.ownBlock, Option.some.injEq] at ho
    subst ho
    rw [hgg] at hg
    simp only [Option.some.injEq, Obj.cells.injEq] at hg
    exact hne hg.2.1.symm
theorem wr_ne_b : 86 ≠ 5 := by decide
theorem wr_ne_i : 86 ≠ 3 := by decide
theorem i_ne_b : 3 ≠ 5 := by decide
/-- a row of one kind is not the row of another -/
theorem row_apart {w : World} {S S' : Nat → Prop} {e e' : TypeId} {sz sz' n n' : Nat} {v v' : Value} {xs xs' : List Value} (h : Row w S e sz v n xs) (h' : Row w S' e' sz' v' n' xs') (hne : e' ≠ e) : ∀ g, own v g → ¬ own v' g := by
  intro g ho ho'
  rcases h'.1.2 with ⟨rfl, _⟩ | ⟨g', cap, cur, rfl, _, hgg, _⟩
  · simp [own, Value.ownBlock] at ho'
  · simp only [own, Value.ownBlock, Option.some.injEq] at ho'
    subst ho'
    exact row_ne h hgg hne ho

/-- the slice of bytes has grown, and is put back into the writer -/
theorem wr_put0 {w w' : World} {S : Nat → Prop} {g : Nat} {v1 v2 u : Value} {st : Wr} {l : List UInt8} (h : WrV w S g v1 v2 st)
    (hu : RowB w' (Up (own v1) w.heap.size) u l) (ho : Only (own v1) w w') :
    w'.heap[g]? = some (.cells #[v1, v2] 86 (0, 0)) ∧ WrV (w'.setCell ⟨g, 0, none⟩ u) (Up S w.heap.size) g u v2 ⟨l, st.opn⟩ ∧ Only S w (w'.setCell ⟨g, 0, none⟩ u) := by
  obtain ⟨hSg, hg, hB, hI⟩ := h
  have hlt : g < w.heap.size := (Array.getElem?_eq_some_iff.1 hg).1
  have hg' : w'.heap[g]? = some (.cells #[v1, v2] 86 (0, 0)) := (ho.block g hlt (row_ne hB hg wr_ne_b)).trans hg
  have hS : ∀ k, own v1 k → S k := hB.2
  refine ⟨hg', ⟨.inl hSg, heap_setCell_at w' g 0 u _ _ _ hg', ?_, ?_⟩, (ho.mono fun k _ hk => hS k hk).setCell (.inl hSg) u⟩
  · exact (Row.other hu (p := ⟨g, 0, none⟩) hg' wr_ne_b u).wide (up_mono (Nat.le_refl _) hS)
  · have hI' : RowI w' (own v2) v2 st.opn.reverse := Row.kept (Row.min hI) ho (row_apart hI hB i_ne_b.symm)
    exact (Row.other hI' (p := ⟨g, 0, none⟩) hg' wr_ne_i u).wide (fun k hk => .inl (hI.2 k hk))

theorem WrV.at {w : World} {S : Nat → Prop} {g : Nat} {v1 v2 : Value} {st : Wr} (h : WrV w S g v1 v2 st) : WrAt w S (.pointer (some ⟨g, 0, none⟩)) st := ⟨g, v1, v2, rfl, h⟩
theorem WrV.wide {w : World} {S S' : Nat → Prop} {g : Nat} {v1 v2 : Value} {st : Wr} (h : WrV w S g v1 v2 st) (k : ∀ g, S g → S' g) : WrV w S' g v1 v2 st := by
  obtain ⟨hS, hg, hB, hI⟩ := h
  exact ⟨k g hS, hg, Row.wide hB k, Row.wide hI k⟩
theorem WrV.kept {w w' : World} {S S' : Nat → Prop} {g : Nat} {v1 v2 : Value} {st : Wr} (h : WrV w S g v1 v2 st) (k : Only S' w w') (hd : ∀ g, S g → ¬ S' g) : WrV w' S g v1 v2 st := by
  obtain ⟨hS, hg, hB, hI⟩ := h
  exact ⟨hS, (k.block g (Array.getElem?_eq_some_iff.1 hg).1 (hd g hS)).trans hg, Row.kept hB k hd, Row.kept hI k hd⟩
theorem WrV.ext {w w' : World} {S : Nat → Prop} {g : Nat} {v1 v2 : Value} {st : Wr} (h : WrV w S g v1 v2 st) (k : Ext w w') : WrV w' S g v1 v2 st :=
  h.kept (k.only (S := fun _ => False)) (fun _ _ hf => hf)
theorem WrAt.wide {w : World} {S S' : Nat → Prop} {p : Value} {st : Wr} (h : WrAt w S p st) (k : ∀ g, S g → S' g) : WrAt w S' p st := by
  obtain ⟨g, v1, v2, rfl, h⟩ := h
  exact (h.wide k).at
theorem WrAt.ext {w w' : World} {S : Nat → Prop} {p : Value} {st : Wr} (h : WrAt w S p st) (k : Ext w w') : WrAt w' S p st := by
  obtain ⟨g, v1, v2, rfl, h⟩ := h
  exact (h.ext k).at
theorem WrAt.kept {w w' : World} {S S' : Nat → Prop} {p : Value} {st : Wr} (h : WrAt w S p st) (k : Only S' w w') (hd : ∀ g, S g → ¬ S' g) : WrAt w' S p st := by
  obtain ⟨g, v1, v2, rfl, h⟩ := h
  exact (h.kept k hd).at

/-- the bytes of an item that is not made of others -/
def itemL (c n : Nat) (body : List UInt8) : List UInt8 := tagB c n :: (lenL body.length ++ body)
/-- lay's answer, and the writer behind it -/
def layE (st : Wr) (c n : Int) (body : List UInt8) : Nat :=
  if mayB c n = false then 2 else if 67108864 < closedN (st.laid.length + (1 + lenOct body.length + body.length)) (nats st.opn) then 3 else 0
def layW (st : Wr) (c n : Int) (body : List UInt8) : Wr := if layE st c n body = 0 then ⟨st.laid ++ itemL c.toNat n.toNat body, st.opn⟩ else st

set_option maxRecDepth 100000 in
set_option maxHeartbeats 8000000 in
theorem lay_any (w : World) (S : Nat → Prop) (p : Value) (st : Wr) (c n : Int) (s : ByteArray) (h : WrAt w S p st) (h1 : st.laid.length ≤ 67108864) (h2 : st.opn.length ≤ 1000) (hs : s.size ≤ 140737488355328) :
    Calls Tryz.prog 55 #[p, .int .i8 c, .int .i64 n, .string s] w fun x w' => x = .returned (.int .i64 (layE st c n (byt s))) ∧ WrAt w' (Up S w.heap.size) p (layW st c n (byt s)) ∧ Only S w w' := by
  have hcl := closed_any w S p st (1 + lenOct s.size + s.size) h (by have := lenOct_le s.size (by omega); omega) h2
  have hE : Hid (layE st c n (byt s) = if mayB c n = false then 2 else if 67108864 < closedN (st.laid.length + (1 + lenOct s.size + s.size)) (nats st.opn) then 3 else 0) := by
    show _ = _; unfold layE; rw [byt_length]
  have hW : Hid (layW st c n (byt s) = if layE st c n (byt s) = 0 then ⟨st.laid ++ itemL c.toNat n.toNat (byt s), st.opn⟩ else st) := rfl
  have hwr := h
  obtain ⟨g, v1, v2, rfl, hwv⟩ := h
  obtain ⟨c0, c1, f0, f1⟩ := wr_cells hwv.2.1
  have hlo := lengthOctets_any s.size (by omega) w
  have hlb := lenOct_le s.size (by omega)
  obtain ⟨L, hL⟩ : ∃ L, lenOct s.size = L := ⟨_, rfl⟩
  rw [hL] at hlo hlb hcl hE
  by_cases hm : mayB c n = true
  · have hm' := of_decide_eq_true hm
    obtain ⟨c, rfl⟩ := Int.eq_ofNat_of_zero_le hm'.1
    obtain ⟨n, rfl⟩ := Int.eq_ofNat_of_zero_le hm'.2.2.1
    have hcc : c ≤ 3 := by omega
    have hnn : n < 31 := by omega
    clear hm'
    have hge := closedN_ge (st.laid.length + (1 + L + s.size)) (nats st.opn)
    obtain ⟨N, hN⟩ : ∃ N, closedN (st.laid.length + (1 + L + s.size)) (nats st.opn) = N := ⟨_, rfl⟩
    rw [hN] at hge hE
    rw [hN, show ((1 + L + s.size : Nat) : Int) = 1 + (L : Int) + (s.size : Int) by omega] at hcl
    rw [if_neg (by simp [hm])] at hE
    clear hN
    by_cases hbig : 67108864 < N
    · go_enter Tryz.func55, Tryz.ntmps55
      go_wp2_with (first
        | (go_at_call 49; refine (mayTag_any _ _ _).mono ?_; rintro _ w1 ⟨rfl, rfl⟩; rw [hm])
        | (go_at_call 51; refine hlo.mono ?_; rintro _ w2 ⟨rfl, rfl⟩)
        | (go_at_call 50; refine hcl.mono ?_; rintro _ w3 ⟨rfl, hx3⟩))
      go_ret
      rw [hW.out, hE.out, if_pos hbig]
      exact ⟨rfl, (hwr.ext hx3).wide (fun _ h => .inl h), hx3.only⟩
    · rw [if_neg hbig] at hE
      rw [hE.out, if_pos rfl] at hW
      go_enter Tryz.func55, Tryz.ntmps55
      go_wp2_with (first
        | (go_at_call 49; refine (mayTag_any _ _ _).mono ?_; rintro _ w1 ⟨rfl, rfl⟩; rw [hm])
        | (go_at_call 51; refine hlo.mono ?_; rintro _ w2 ⟨rfl, rfl⟩)
        | (go_at_call 50; refine hcl.mono ?_; rintro _ w3 ⟨rfl, hx3⟩; have c03 := hx3.cell c0))
      have hwv3 := hwv.ext hx3
      have hmx : Tryz.prog.follows .mixedOrders = true := by kernel_rfl
      have c03A : ∀ ob : Obj, (w3.alloc ob).cell? ⟨g, 0, none⟩ = some v1 := fun ob => ((Ext.refl w3).alloc ob).cell c03
      go_region_law_o ((first
        | (refine step_byte (by rfl) _ _ (by rfl) w3 (by first | exact ((Ext.refl w3).alloc _).drew | exact ((Ext.refl w3).drew).alloc _) (own v1) v1 st.laid (Row.min hwv3.2.2.1) (by rfl) w3.heap.size (by rfl) _ (by first | exact heap_alloc_new w3 _ | exact heap_alloc_new w3.drew _) (tagB c n) (by rfl) (by omega) ?_; intro a5 cap5 w5 hr5 ho5; obtain ⟨hg5, hw5, hon5⟩ := wr_put0 hwv3 hr5 ho5; obtain ⟨c05, _, f05, _⟩ := wr_cells hg5)
        | (go_simp; go_at_call 52; refine (tagOf_any c n hcc hnn _).mono ?_; rintro _ w4 ⟨rfl, rfl⟩; unfold B8; dsimp only)))
      all_goals
        generalize hw6 : w5.setCell ⟨g, 0, none⟩ (.slice a5 (st.laid.length + 1) cap5) = w6 at hw5 hon5 ⊢
        clear hw6 hr5 ho5 hg5 c05 f05
        obtain ⟨c06, _, f06, _⟩ := wr_cells hw5.2.1
        have hal := appendLength_any w6 (own (.slice a5 (st.laid.length + 1) cap5)) (.slice a5 (st.laid.length + 1) cap5) (st.laid ++ [tagB c n]) s.size (Row.min hw5.2.2.1) (by omega) (by simp; omega)
        go_wp2_with (first
          | (go_at_call 61; refine hal.mono ?_; rintro _ w7 ⟨u7, rfl, hr7, ho7⟩; obtain ⟨a7, k7, cap7, rfl, hk7⟩ := hr7.lit; obtain ⟨hg7, hw7, hon7⟩ := wr_put0 hw5 hr7 ho7; obtain ⟨c07, _, f07, _⟩ := wr_cells hg7)
          | (at_builtin; refine Hid.out ?_))
        generalize hw8 : w7.setCell ⟨g, 0, none⟩ (.slice a7 k7 cap7) = w8 at hw7 hon7 ⊢
        clear hw8 hr7 ho7 hg7 c07 f07 c06 f06
        obtain ⟨w9, a9, cap9, hr, hr9, ho9⟩ := run_append8 w8 (own (.slice a7 k7 cap7)) 9 22 _ _ (Row.min hw7.2.2.1) _ _ (byt s) (src8s w8 s) (byt_length s).symm (by
          have := lenL_length s.size
          rw [byt_length]; simp; omega)
        refine Lib.wpList_append_run _ rfl _ _ _ _ rfl _ _ rfl rfl _ _ hr ?_
        generalize hk9 : (st.laid ++ [tagB c n] ++ lenL s.size).length + s.size = k9 at hr9 ⊢
        obtain ⟨hg9, hw9, hon9⟩ := wr_put0 hw7 hr9 ho9
        obtain ⟨c09, _, f09, _⟩ := wr_cells hg9
        clear hr hk9
        go_wp2
        go_ret
        rw [hW.out, hE.out]
        refine ⟨rfl, ?_, (hx3.only.then ((hon5.trans hon7).trans (hon9.mono (fun k _ => up_up hon5.size k))))⟩
        have e : st.laid ++ [tagB c n] ++ lenL s.size ++ byt s = st.laid ++ itemL c n (byt s) := by unfold itemL; rw [byt_length]; simp
        rw [e] at hw9
        refine hw9.at.wide ?_
        intro k hk
        rcases hk with (hk | hk) | hk
        · rcases hk with hk | hk
          · exact .inl hk
          · exact .inr (Nat.le_trans hx3.size hk)
        · exact .inr (Nat.le_trans hx3.size (Nat.le_trans hon5.size hk))
        · exact .inr (Nat.le_trans hx3.size (Nat.le_trans (Nat.le_trans hon5.size hon7.size) hk))
  · have hm1 : mayB c n = false := by simpa using hm
    go_enter Tryz.func55, Tryz.ntmps55
    go_wp2_with (go_at_call 49; refine (mayTag_any _ _ _).mono ?_; rintro _ w1 ⟨rfl, rfl⟩; rw [hm1])
    go_ret
    rw [hW.out, hE.out, if_pos hm1]
    exact ⟨rfl, hwr.wide (fun _ h => .inl h), Only.refl _ _⟩
end Go.Proofs.YtmcodhdphdckkaaGreatDoor
