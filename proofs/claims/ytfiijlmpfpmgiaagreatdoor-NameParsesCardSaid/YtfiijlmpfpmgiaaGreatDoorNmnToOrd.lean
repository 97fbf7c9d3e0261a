/-
  What the text of a value means.
-/
import Derived.Test.YtfiijlmpfpmgiaaGreatDoorNtv
import Derived.Test.YtfiijlmpfpmgiaaGreatDoorMathToRules
import Derived.Test.YtfiijlmpfpmgiaaGreatDoorKeyToSleaf
import Derived.OrdersHeld
import Derived.StillTail
import Derived.Deep.RegionHeld3
namespace Go.Proofs.YtfiijlmpfpmgiaaGreatDoor
open Go.RowKit

theorem nIB92 (w : World) (s : ByteArray) : Calls Tryz.prog 59 #[.string s, .int .u8 92] w fun e w' => e = .returned (.int .i64 (Lib.indexByte (byt s) 92)) ∧ w' = w := nIndexByte w s 92
theorem escP_said (l : List UInt8) (h : l.head? = some 92) (hn : 0 < (escP l).2) : (escP l).1.length = 1 := by
  have h2 := escP_two l h hn
  unfold escP at hn h2 ⊢
  split
  · rfl
  · rename_i e
    rw [if_neg e] at hn h2
    split at hn
    · rename_i e2
      rw [if_pos e2] at h2 ⊢
      have h3 : 3 ≤ l.length := by
        rcases h2 with ⟨_, h1, h2⟩ | ⟨_, h3⟩
        · exact absurd ⟨h1, h2⟩ e
        · exact h3
      match l, h, h3, e2 with
      | a :: b :: c :: r, h, _, e2 =>
        obtain rfl : a = 92 := by simpa using h
        show (exV (unescGo 3 (92 :: [b, c]))).length = 1
        have e3 : exE (unescGo 3 (92 :: [b, c])) = 0 := e2
        rw [unesc_bs 2 92 [b, c] rfl] at e3 ⊢
        split at e3
        · rename_i q
          rw [if_pos q]
          simp [unescGo_nil, Except.map, exV]
        · simp [exE] at e3
    · exact absurd hn (Nat.lt_irrefl 0)
theorem indexByte_lt : ∀ (l : List UInt8) (c : UInt8), Lib.indexByte l c < l.length ∨ Lib.indexByte l c = -1
  | [], _ => .inr rfl
  | b :: l, c => by
    unfold Lib.indexByte
    split
    · left; simp
    · split
      · exact .inr rfl
      · rename_i h
        rcases indexByte_lt l c with q | q
        · left; simp; omega
        · rw [q] at h; exact absurd rfl h
/-- at the first \ -/
theorem EscOk.at {l : List UInt8} (h : EscOk l) : ∀ k : Nat, Lib.indexByte l 92 = k → k < l.length ∧ (l.drop k).head? = some 92 ∧ 0 < (escP (l.drop k)).2 ∧ EscOk (l.drop (k + (escP (l.drop k)).2)) := by
  induction h with
  | nil => intro k hk; simp [Lib.indexByte] at hk
  | plain b l hb _ ih =>
    intro k hk
    unfold Lib.indexByte at hk
    rw [if_neg (by simpa using hb)] at hk
    split at hk
    · omega
    · rename_i hne
      have hge := Lib.indexByte_ge l 92
      have hne' : Lib.indexByte l 92 ≠ -1 := by simpa using hne
      obtain ⟨j, rfl⟩ : ∃ j, k = j + 1 := ⟨k - 1, by omega⟩
      obtain ⟨a, b', c, d⟩ := ih j (by omega)
      refine ⟨by simp; omega, by simpa using b', by simpa using c, ?_⟩
      rw [List.drop_succ_cons, show j + 1 + (escP (l.drop j)).2 = (j + (escP (l.drop j)).2) + 1 by omega, List.drop_succ_cons]
      exact d
  | esc l h0 hn hd _ =>
    intro k hk
    cases l with
    | nil => cases h0
    | cons b t =>
      obtain rfl : b = 92 := by simpa using h0
      unfold Lib.indexByte at hk
      rw [if_pos (by decide)] at hk
      obtain rfl : k = 0 := by omega
      refine ⟨by simp, rfl, hn, ?_⟩
      rw [List.drop_zero, Nat.zero_add]
      exact hd
theorem mnP_none (f : Nat) (l : List UInt8) (h : Lib.indexByte l 92 < 0) : mnP f l = l := by
  cases f with
  | zero => rfl
  | succ f => rw [mnP, if_pos h]
theorem mnP_some (f : Nat) (l : List UInt8) (k : Nat) (h : Lib.indexByte l 92 = k) : mnP (f + 1) l = l.take k ++ (escP (l.drop k)).1 ++ mnP f (l.drop (k + (escP (l.drop k)).2)) := by
  rw [mnP, if_neg (by omega), h]; rfl

set_option maxRecDepth 100000 in
set_option maxHeartbeats 4000000 in
theorem meaning_any (w : World) (g off cap : Nat) (ht : Tab w g off cap) (t : ByteArray) (hs : t.size ≤ 140737488355328) (hok : EscOk (byt t)) :
    Calls Tryz.prog 50 #[.string t] w fun e w' => e = .returned (.string (str (mean (byt t)))) ∧ Ext w w' := by
  have hes := fun w1 (x : Ext w w1) (tx : ByteArray) (h : tx.size ≤ 140737488355328) => escape_any w1 g off cap (ht.ext x) tx h
  have hib := nIB92
  have hz0 : Hid (Lib.indexByte (byt t) 92 < 0 → mean (byt t) = byt t) := fun h => mnP_none _ _ h
  have hm0 : Hid (([] : List UInt8) ++ mnP (t.size + 1) (byt t) = mean (byt t)) := by show _ = _; unfold mean; rw [byt_length]; rfl
  have hokh : Hid (EscOk (byt t)) := hok
  have hgt := Lib.indexByte_ge (byt t) 92
  clear hok ht
  by_cases hz : Lib.indexByte (byt t) 92 < 0
  · have hv := hz0.out hz
    have hvh : Hid (mean (byt t) = byt t) := hv
    clear hv hz0 hm0
    have hib0 := hib w t
    generalize Lib.indexByte (byt t) 92 = z at *
    clear hib hes
    go_enter Tryz.func50, Tryz.ntmps50
    go_wp2_with (go_at_call 59; refine hib0.mono ?_; rintro _ _ ⟨rfl, rfl⟩)
    go_ret
    exact ⟨ret_s (by rw [hvh.out, str_byt]), Ext.refl _⟩
  · have hib0 := hib w t
    have hzh : Hid (∃ z, z = Lib.indexByte (byt t) 92) := ⟨_, rfl⟩
    clear hz0
    have hzi : Hid (Lib.indexByte (byt t) 92 = Lib.indexByte (byt t) 92) := rfl
    generalize hzz : Lib.indexByte (byt t) 92 = z at hz hgt hib0
    have hzzh : Hid (Lib.indexByte (byt t) 92 = z) := hzz
    clear hzz hzh hzi
    go_enter Tryz.func50, Tryz.ntmps50
    go_wp2_with (go_at_call 59; refine hib0.mono ?_; rintro _ w0 ⟨rfl, rfl⟩)
    go_loopw [0, 3, 4] (fun x i v wr => ∃ (tx : ByteArray) (f : Nat) (acc : List UInt8) (z : Int), x = .string tx ∧ i = .int .i64 z ∧ Hid (Lib.indexByte (byt tx) 92 = z ∧ tx.size < f ∧ acc ++ mnP f (byt tx) = mean (byt t) ∧ EscOk (byt tx) ∧ acc.length + tx.size ≤ t.size) ∧ Own wr w0.heap.size v acc ∧ Ext w0 wr) (fun x _ _ _ => match x with | .string tx => tx.size | _ => 0)
    case atStart => exact ⟨t, t.size + 1, [], z, rfl, rfl, ⟨hzzh.out, by omega, hm0.out, hokh.out, by simp⟩, World.ownsRow_nil _ _ _ _, Ext.refl _⟩
    case round =>
      obtain ⟨tx, f, acc, y, rfl, rfl, HI, hown, hfr⟩ := hrel
      clear hib0 hz hgt hzzh hm0 hokh
      have hb : acc.length + tx.size ≤ t.size := HI.out.2.2.2.2
      by_cases hy : y < 0
      · have hy' : ¬ 0 ≤ y := by omega
        have hv : Hid (acc ++ byt tx = mean (byt t)) := by
          obtain ⟨h1, h2, h3, _⟩ := HI.out
          show _ = _
          rw [← h3, mnP_none _ _ (by omega)]
        clear HI hes hib
        go_wp2_with (at_builtin; refine wpList_pushS rfl _ _ rfl w0.heap.size _ acc hown hfr.size rfl _ rfl (by omega) ?_; intro v3 w3 ho3 hr3; have hcv := ho3.conv)
        go_ret
        exact ⟨ret_s (by rw [← hv.out]), Below.trans hfr hr3.1⟩
      · have hy' : 0 ≤ y := by omega
        obtain ⟨k, rfl⟩ : ∃ k : Nat, y = k := ⟨y.toNat, by omega⟩
        obtain ⟨h1, h2, h3, h4, h5⟩ := HI.out
        obtain ⟨a1, a2, a3, a4⟩ := h4.at k h1
        have a5 := escP_said _ a2 a3
        have a6 := escP_len ((byt tx).drop k)
        rw [List.length_drop] at a6
        rw [byt_length] at a1 a6
        obtain ⟨f', rfl⟩ : ∃ f', f = f' + 1 := ⟨f - 1, by omega⟩
        rw [mnP_some _ _ k h1] at h3
        have hex := hes wr hfr (tx.extract k tx.size) (by rw [ByteArray.size_extract]; omega)
        simp only [byt_from] at hex
        generalize escP ((byt tx).drop k) = ep at *
        obtain ⟨el, n⟩ := ep
        simp only at *
        obtain ⟨q, hqh⟩ : ∃ q, Hid (q = k + n) := ⟨_, rfl⟩
        have hq : (k : Int) + (n : Int) = (q : Int) := by have := hqh.out; omega
        have hki : (k : Int) ≤ (tx.size : Int) := by omega
        have hqi : (q : Int) ≤ (tx.size : Int) := by have := hqh.out; omega
        have hib2 := fun w => hib w (tx.extract q tx.size)
        simp only [byt_from] at hib2
        have HJ : Hid (tx.size < f' + 1 ∧ acc ++ ((byt tx).take k ++ el ++ mnP f' ((byt tx).drop (k + n))) = mean (byt t) ∧ EscOk ((byt tx).drop (k + n)) ∧ acc.length + tx.size ≤ t.size ∧ 0 < n ∧ el.length = 1 ∧ n ≤ tx.size - k ∧ k < tx.size) := ⟨h2, h3, a4, h5, a3, a5, a6, a1⟩
        have hl1 : acc.length + (tx.extract 0 k).size ≤ 140737488355328 := by rw [ByteArray.size_extract]; omega
        have hl2 : (acc ++ byt (tx.extract 0 k)).length + (str el).size ≤ 140737488355328 := by rw [List.length_append, byt_length, ByteArray.size_extract, ← byt_length (str el), byt_str]; omega
        clear h1 h2 h3 h4 h5 a1 a2 a3 a4 a5 a6 HI hes hib
        generalize hz2 : Lib.indexByte ((byt tx).drop q) 92 = z2 at hib2
        have hz2h : Hid (Lib.indexByte ((byt tx).drop q) 92 = z2) := hz2
        clear hz2
        go_wp2_with (first | (go_at_call 48; refine hex.mono ?_; rintro _ w2 ⟨rfl, x2⟩) | (at_builtin; refine Hid.out ?_))
        have x02 := hfr.trans x2
        refine wpList_pushS rfl _ _ rfl w0.heap.size _ acc (hown.below x2) x02.size rfl _ rfl hl1 ?_
        intro v3 w3 ho3 hr3
        have x03 : Ext w0 w3 := Below.trans x02 hr3.1
        go_wp2_with (at_builtin; refine Hid.out ?_)
        refine wpList_pushS rfl _ _ rfl w0.heap.size _ _ ho3 x03.size rfl _ rfl hl2 ?_
        intro v4 w4 ho4 hr4
        have x04 : Ext w0 w4 := Below.trans x03 hr4.1
        go_wp2_with (go_at_call 59; refine (hib2 _).mono ?_; rintro _ _ ⟨rfl, rfl⟩)
        go_roundw
        case rel =>
          obtain ⟨b1, b2, b3, b4, b5, b6, b7, b8⟩ := HJ.out
          have hq2 := hqh.out
          subst hq2
          have hsz : (tx.extract (k + n) tx.size).size = tx.size - (k + n) := by rw [ByteArray.size_extract]; omega
          refine ⟨_, f', _, _, rfl, rfl, ⟨by rw [byt_from]; exact hz2h.out, by omega, ?_, by rw [byt_from]; exact b3, ?_⟩, ho4, x04⟩
          · rw [byt_from, byt_extract, byt_str, ← b2]
            simp [List.append_assoc]
          · rw [hsz, List.length_append, List.length_append, byt_length, byt_str, b6, ByteArray.size_extract]; omega
        case measure =>
          obtain ⟨b1, b2, b3, b4, b5, b6, b7, b8⟩ := HJ.out
          have hq2 := hqh.out
          subst hq2
          simp only [ByteArray.size_extract]
          omega
end Go.Proofs.YtfiijlmpfpmgiaaGreatDoor

/-
  Names in memory, and a reader with the parts that it has.
-/
namespace Go.Proofs.YtfiijlmpfpmgiaaGreatDoor
open Go.RowKit

theorem In.mono6 {B B' : Nat → Prop} {v : Value} (h : In B v) (k : ∀ b, B b → B' b) : In B' v := fun a n c e hn => k _ (h a n c e hn)
theorem blk5 {S : Nat → Prop} {w w' : World} {R : Nat} {o : Obj} (h : w.heap[R]? = some o) (k : Only S w w') (hn : ¬ S R) : w'.heap[R]? = some o := (k.block R (Array.getElem?_eq_some_iff.1 h).1 hn).trans h
def avL (a : Av) : List Value := [.string a.t, .string a.v]
def flatA (l : List Av) : List Value := l.flatMap avL
theorem flatA_len : ∀ l : List Av, (flatA l).length = l.length * 2
  | [] => rfl
  | a :: l => by show (avL a ++ flatA l).length = _; rw [List.length_append, flatA_len l, List.length_cons]; show 2 + _ = _; omega
theorem flatA_snoc (l : List Av) (a : Av) : flatA (l ++ [a]) = flatA l ++ [.string a.t, .string a.v] := by simp [flatA, avL]
theorem infoAva : (Tryz.prog.info? 48).map (fun i => (i.zero, i.size, i.bytes)) = some (some (.agg #[.string ⟨#[]⟩, .string ⟨#[]⟩]), 2, 32) := by kernel_rfl
theorem infoRdn : (Tryz.prog.info? 45).map (fun i => (i.zero, i.size, i.bytes)) = some (some (.agg #[.slice none 0 0]), 1, 24) := by kernel_rfl
/-- the value is a slice of these pairs -/
def AvSl (w : World) (v : Value) (l : List Av) : Prop :=
  ∃ a cap, v = .slice a l.length cap ∧ l.length ≤ cap ∧ cap ≤ maxLen ∧ (l ≠ [] → ∃ g o, a = some ⟨g, o, none⟩ ∧ ∀ j u, (flatA l)[j]? = some u → w.cell? ⟨g, o + j, none⟩ = some u)
theorem AvSl.only {S : Nat → Prop} {w w' : World} {v : Value} {l : List Av} (h : AvSl w v l) (k : Only S w w') (hi : In (fun b => ¬ S b) v) : AvSl w' v l := by
  obtain ⟨a, cap, rfl, h1, h2, h3⟩ := h
  refine ⟨a, cap, rfl, h1, h2, fun hne => ?_⟩
  obtain ⟨g, o, rfl, hc⟩ := h3 hne
  refine ⟨g, o, rfl, fun j u hu => k.cell (hc j u hu) (hi ⟨g, o, none⟩ l.length cap rfl (List.length_pos_iff.2 hne))⟩
theorem AvSl.ext {w w' : World} {v : Value} {l : List Av} (h : AvSl w v l) (x : Ext w w') : AvSl w' v l := h.only (x.only (S := fun _ => False)) (fun _ _ _ _ _ hf => hf)
theorem AvSl.inOld {w : World} {v : Value} {l : List Av} (h : AvSl w v l) : In (fun b => b < w.heap.size) v := by
  rintro ad n c rfl hn
  obtain ⟨a, cap, e, _, _, h3⟩ := h
  simp only [Value.slice.injEq] at e
  obtain ⟨rfl, rfl, rfl⟩ := e
  cases l with
  | nil => simp at hn
  | cons x l =>
    obtain ⟨g, o, e, hc⟩ := h3 (by simp)
    cases e
    exact World.block_lt_of_cell? w _ (hc 0 _ rfl)
theorem row_avsl {w : World} {S : Nat → Prop} {v : Value} {l : List Av} (h : Row w S 48 2 v l.length (flatA l)) : AvSl w v l := by
  have hc := fun g hg => World.ownsRow.cells h.1 (g := g) hg
  rcases h.1.2 with ⟨rfl, hl⟩ | ⟨g, cap, cur, rfl, _, _, h1, h2, _⟩
  · obtain rfl : l = [] := List.eq_nil_of_length_eq_zero hl
    exact ⟨none, 0, rfl, Nat.le_refl _, by decide, fun h => absurd rfl h⟩
  · refine ⟨_, cap, rfl, h1, h2, fun _ => ⟨g, 0, rfl, fun j u hu => ?_⟩⟩
    have := hc g rfl j u hu
    rwa [Addr.add_lit] at this
theorem row_in {w : World} {S : Nat → Prop} {e : TypeId} {sz : Nat} {v : Value} {n : Nat} {xs : List Value} (h : Row w S e sz v n xs) : In (own v) v := by
  rintro ad n c rfl hn
  rcases h.1.2 with ⟨e', _⟩ | ⟨g', cap, cur, e', _⟩
  · simp at e'
  · simp only [Value.slice.injEq, Option.some.injEq] at e'
    obtain ⟨rfl, _, _⟩ := e'
    rfl
theorem row_blk {w : World} {S : Nat → Prop} {e : TypeId} {sz : Nat} {v : Value} {n : Nat} {xs : List Value} (h : Row w S e sz v n xs) {g : Nat} (hg : own v g) : ∃ cs fz, w.heap[g]? = some (.cells cs e fz) := by
  rcases h.1.2 with ⟨rfl, _⟩ | ⟨g', cap, cur, rfl, _, hh, _⟩
  · simp [own, Value.ownBlock] at hg
  · simp only [own, Value.ownBlock, Option.some.injEq] at hg
    subst hg
    exact ⟨cur, _, hh⟩
theorem row_apart {w : World} {S S' : Nat → Prop} {e e' : TypeId} {sz sz' : Nat} {v v' : Value} {n n' : Nat} {xs xs' : List Value} (h : Row w S e sz v n xs) (h' : Row w S' e' sz' v' n' xs') (he : e ≠ e') : ∀ g, own v g → ¬ own v' g := by
  intro g hg hg'
  obtain ⟨c, f, a⟩ := row_blk h hg
  obtain ⟨c', f', b⟩ := row_blk h' hg'
  rw [a] at b
  simp only [Option.some.injEq, Obj.cells.injEq] at b
  exact he b.2.1
/-- these values are slices of the pairs of these parts, in blocks of S -/
def PtsAt (w : World) (S : Nat → Prop) (us : List Value) (pts : List (List Av)) : Prop := us.length = pts.length ∧ ∀ (i : Nat) (u : Value) (l : List Av), us[i]? = some u → pts[i]? = some l → AvSl w u l ∧ In S u
theorem PtsAt.only {S T : Nat → Prop} {w w' : World} {us : List Value} {pts : List (List Av)} (h : PtsAt w S us pts) (k : Only T w w') (hd : ∀ b, S b → ¬ T b) : PtsAt w' S us pts :=
  ⟨h.1, fun i u l hu hl => ⟨(h.2 i u l hu hl).1.only k ((h.2 i u l hu hl).2.mono6 hd), (h.2 i u l hu hl).2⟩⟩
theorem PtsAt.mono {S T : Nat → Prop} {w : World} {us : List Value} {pts : List (List Av)} (h : PtsAt w S us pts) (hd : ∀ b, b < w.heap.size → S b → T b) : PtsAt w T us pts :=
  ⟨h.1, fun i u l hu hl => ⟨(h.2 i u l hu hl).1, fun a n c e hn => hd _ ((h.2 i u l hu hl).1.inOld a n c e hn) ((h.2 i u l hu hl).2 a n c e hn)⟩⟩
theorem PtsAt.snoc {S : Nat → Prop} {w : World} {us : List Value} {pts : List (List Av)} (h : PtsAt w S us pts) {u : Value} {l : List Av} (hu : AvSl w u l) (hi : In S u) : PtsAt w S (us ++ [u]) (pts ++ [l]) := by
  refine ⟨by simp [h.1], fun i x y hx hy => ?_⟩
  by_cases hlt : i < us.length
  · rw [List.getElem?_append_left hlt] at hx
    rw [List.getElem?_append_left (by rw [← h.1]; exact hlt)] at hy
    exact h.2 i x y hx hy
  · have hle : us.length ≤ i := by omega
    rw [List.getElem?_append_right hle] at hx
    rw [List.getElem?_append_right (by rw [← h.1]; exact hle), ← h.1] at hy
    obtain ⟨j, hj⟩ : ∃ j, i - us.length = j := ⟨_, rfl⟩
    rw [hj] at hx hy
    match j, hx, hy with
    | 0, hx, hy =>
      simp at hx hy
      subst hx hy
      exact ⟨hu, hi⟩
/-- these values are rows of their own, of the pairs of these parts, in blocks of S, no two of them in one block -/
def PtsO (w : World) (S : Nat → Prop) (us : List Value) (pts : List (List Av)) : Prop := us.length = pts.length ∧ ∀ (i : Nat) (u : Value) (l : List Av), us[i]? = some u → pts[i]? = some l → Row w S 48 2 u l.length (flatA l) ∧ ∀ (j : Nat) (u' : Value), us[j]? = some u' → j ≠ i → ∀ b, own u b → ¬ own u' b
theorem PtsO.only {S T : Nat → Prop} {w w' : World} {us : List Value} {pts : List (List Av)} (h : PtsO w S us pts) (k : Only T w w') (hd : ∀ b, S b → ¬ T b) : PtsO w' S us pts :=
  ⟨h.1, fun i u l hu hl => ⟨Row.kept (h.2 i u l hu hl).1 k hd, (h.2 i u l hu hl).2⟩⟩
theorem PtsO.mono {S T : Nat → Prop} {w : World} {us : List Value} {pts : List (List Av)} (h : PtsO w S us pts) (hd : ∀ b, b < w.heap.size → S b → T b) : PtsO w T us pts :=
  ⟨h.1, fun i u l hu hl => ⟨Row.wide (Row.min (h.2 i u l hu hl).1) (fun g hg => hd g (Row.lt (h.2 i u l hu hl).1 hg) ((h.2 i u l hu hl).1.2 g hg)), (h.2 i u l hu hl).2⟩⟩
theorem PtsO.old {S : Nat → Prop} {w : World} {us : List Value} {pts : List (List Av)} (h : PtsO w S us pts) : PtsAt w S us pts :=
  ⟨h.1, fun i u l hu hl => ⟨row_avsl (h.2 i u l hu hl).1, (row_in (h.2 i u l hu hl).1).mono6 (fun b hb => (h.2 i u l hu hl).1.2 b hb)⟩⟩
theorem PtsO.snoc {S : Nat → Prop} {w : World} {us : List Value} {pts : List (List Av)} (h : PtsO w S us pts) {u : Value} {l : List Av} (hu : Row w S 48 2 u l.length (flatA l)) (hn : ∀ (i : Nat) (x : Value) (y : List Av), us[i]? = some x → pts[i]? = some y → ∀ b, own x b → ¬ own u b) : PtsO w S (us ++ [u]) (pts ++ [l]) := by
  have hat : ∀ {i : Nat} {x : Value}, (us ++ [u])[i]? = some x → us[i]? = some x ∨ (i = us.length ∧ x = u) := by
    intro i x hx
    by_cases hlt : i < us.length
    · rw [List.getElem?_append_left hlt] at hx; exact .inl hx
    · have hle : us.length ≤ i := by omega
      rw [List.getElem?_append_right hle] at hx
      obtain ⟨j, hj⟩ : ∃ j, i - us.length = j := ⟨_, rfl⟩
      rw [hj] at hx
      match j, hj, hx with
      | 0, hj, hx => exact .inr ⟨by omega, by simpa using hx.symm⟩
  have hpt : ∀ {i : Nat} {x : Value}, us[i]? = some x → ∃ y, pts[i]? = some y := by
    intro i x hx
    have hi : i < us.length := (List.getElem?_eq_some_iff.1 hx).1
    exact ⟨_, List.getElem?_eq_getElem (by rw [← h.1]; exact hi)⟩
  refine ⟨by simp [h.1], fun i x y hx hy => ?_⟩
  rcases hat hx with hx' | ⟨rfl, rfl⟩
  · have hi : i < us.length := (List.getElem?_eq_some_iff.1 hx').1
    rw [List.getElem?_append_left (by rw [← h.1]; exact hi)] at hy
    refine ⟨(h.2 i x y hx' hy).1, fun j u' hj hne b hb => ?_⟩
    rcases hat hj with hj' | ⟨_, rfl⟩
    · exact (h.2 i x y hx' hy).2 j u' hj' hne b hb
    · exact hn i x y hx' hy b hb
  · rw [h.1, List.getElem?_append_right (Nat.le_refl _), Nat.sub_self] at hy
    simp at hy
    subst hy
    refine ⟨hu, fun j u' hj hne b hb hb' => ?_⟩
    rcases hat hj with hj' | ⟨e, _⟩
    · obtain ⟨y, hy⟩ := hpt hj'
      exact hn j u' y hj' hy b hb' hb
    · exact hne e
/-- a reader with all that it has -/
structure RdM (w0 : World) (R : Nat) (s : ByteArray) (r : RS) (pv qv : Value) (us : List Value) (W : World) : Prop where
  rd : RdS W R s r.pos r.word r.frm pv qv
  prow : Row W (fun k => R < k) 48 2 pv r.prs.length (flatA r.prs)
  qrow : Row W (fun k => R < k) 45 1 qv us.length us
  pts : PtsO W (fun b => R < b ∧ ¬ own pv b ∧ ¬ own qv b) us r.pts
  base : w0.heap.size ≤ R
  ext : Ext w0 W
theorem RdM.lt {w0 : World} {R : Nat} {s : ByteArray} {r : RS} {pv qv : Value} {us : List Value} {W : World} (h : RdM w0 R s r pv qv us W) : R < W.heap.size := (Array.getElem?_eq_some_iff.1 h.rd).1
theorem own_nil (k : Nat) : ¬ own (.slice none 0 0) k := by simp [own, Value.ownBlock]
section
variable {w0 : World} {R : Nat} {s : ByteArray} {p : Nat} {wd : ByteArray} {fm : Nat} {prs : List Av} {pts : List (List Av)} {pv qv : Value} {us : List Value} {W W' : World}
/-- a reader's own cells turn -/
theorem RdM.moved {p' : Nat} {wd' : ByteArray} {fm' : Nat} (h : RdM w0 R s ⟨p, wd, fm, prs, pts⟩ pv qv us W) (hr : RdS W' R s p' wd' fm' pv qv) (k : Only (fun b => b = R) W W') : RdM w0 R s ⟨p', wd', fm', prs, pts⟩ pv qv us W' :=
  ⟨hr, Row.kept h.prow k (fun g hg => by omega), Row.kept h.qrow k (fun g hg => by omega), h.pts.only k (fun b hb => by omega), h.base, h.ext.then k (fun g hg => by have := h.base; omega)⟩
theorem RdM.grow (h : RdM w0 R s ⟨p, wd, fm, prs, pts⟩ pv qv us W) (x : Ext W W') : RdM w0 R s ⟨p, wd, fm, prs, pts⟩ pv qv us W' :=
  ⟨h.rd.ext x, h.prow.ext x, h.qrow.ext x, h.pts.only (x.only (S := fun _ => False)) (fun _ _ hf => hf), h.base, h.ext.trans x⟩
/-- one pair more -/
theorem RdM.pushP {pv' : Value} {x : Av} (h : RdM w0 R s ⟨p, wd, fm, prs, pts⟩ pv qv us W) (r : Row W' (Up (own pv) W.heap.size) 48 2 pv' (prs.length + 1) (flatA prs ++ [.string x.t, .string x.v])) (o : Only (own pv) W W') :
    RdM w0 R s ⟨p, wd, fm, prs ++ [x], pts⟩ pv' qv us (W'.setCell ⟨R, 4, none⟩ pv') := by
  have hlt := h.lt
  have hS : ∀ g, own pv g → R < g := fun g hg => h.prow.2 g hg
  have hU : ∀ g, Up (own pv) W.heap.size g → R < g := fun g hg => hg.elim (hS g) (fun h' => by omega)
  have y := setOnly W' R 4 pv'
  have hq : ∀ g, own qv g → ¬ own pv g := row_apart h.qrow h.prow (by decide)
  have hpo : ∀ g, own pv' g → Up (own pv) W.heap.size g := fun g hg => r.2 g hg
  refine ⟨?_, ?_, ?_, ?_, h.base, (h.ext.then o (fun g hg => by have := hS g hg; have := h.base; omega)).then y (fun g hg => by have := h.base; omega)⟩
  · exact RdS.set4 (blk5 h.rd o (fun hs => by have := hS _ hs; omega)) pv'
  · have r2 := Row.kept (r.wide hU) y (fun g hg => by omega)
    rw [← flatA_snoc] at r2
    have e : (prs ++ [x]).length = prs.length + 1 := by simp
    rw [← e] at r2
    exact r2
  · exact Row.kept (Row.wide (Row.kept (Row.min h.qrow) o hq) (fun g hg => h.qrow.2 g hg)) y (fun g hg => by omega)
  · have p1 : PtsO W (fun b => R < b ∧ ¬ own pv b ∧ ¬ own pv' b ∧ ¬ own qv b) us pts := h.pts.mono (fun b hb hs => ⟨hs.1, hs.2.1, fun hv => (hpo b hv).elim hs.2.1 (fun h' => by omega), hs.2.2⟩)
    have p2 := (p1.only o (fun b hb => hb.2.1)).only y (fun b hb => by omega)
    exact p2.mono (fun b _ hs => ⟨hs.1, hs.2.2.1, hs.2.2.2⟩)
/-- one part more -/
theorem RdM.pushQ {qv' : Value} (h : RdM w0 R s ⟨p, wd, fm, prs, pts⟩ pv qv us W) (r : Row W' (Up (own qv) W.heap.size) 45 1 qv' (us.length + 1) (us ++ [pv])) (o : Only (own qv) W W') :
    RdM w0 R s ⟨p, wd, fm, [], pts ++ [prs]⟩ (.slice none 0 0) qv' (us ++ [pv]) ((W'.setCell ⟨R, 5, none⟩ qv').setCell ⟨R, 4, none⟩ (.slice none 0 0)) := by
  have hlt := h.lt
  have hS : ∀ g, own qv g → R < g := fun g hg => h.qrow.2 g hg
  have hU : ∀ g, Up (own qv) W.heap.size g → R < g := fun g hg => hg.elim (hS g) (fun h' => by omega)
  have y := (setOnly W' R 5 qv').then (setOnly (W'.setCell ⟨R, 5, none⟩ qv') R 4 (.slice none 0 0))
  have hq : ∀ g, own pv g → ¬ own qv g := row_apart h.prow h.qrow (by decide)
  have hpo : ∀ g, own qv' g → Up (own qv) W.heap.size g := fun g hg => r.2 g hg
  refine ⟨?_, row_nil _ _ _ _, ?_, ?_, h.base, (h.ext.then o (fun g hg => by have := hS g hg; have := h.base; omega)).then y (fun g hg => by have := h.base; omega)⟩
  · exact RdS.set4 (RdS.set5 (blk5 h.rd o (fun hs => by have := hS _ hs; omega)) qv') _
  · have r2 := Row.kept (r.wide hU) y (fun g hg => by omega)
    have e : (us ++ [pv]).length = us.length + 1 := by simp
    rw [← e] at r2
    exact r2
  · have p1 : PtsO W (fun b => R < b ∧ ¬ own qv b ∧ ¬ own qv' b) (us ++ [pv]) (pts ++ [prs]) := by
      refine PtsO.snoc (h.pts.mono (fun b hb hs => ⟨hs.1, hs.2.2, fun hv => (hpo b hv).elim hs.2.2 (fun h' => by omega)⟩)) (Row.wide (Row.min h.prow) (fun b hb => ⟨h.prow.2 b hb, hq b hb, fun hv => (hpo b hv).elim (hq b hb) (fun h' => ?_)⟩)) (fun i x z hx hz b hb hp => ((h.pts.2 i x z hx hz).1.2 b hb).2.1 hp)
      have := Row.lt h.prow hb
      omega
    have p2 := (p1.only o (fun b hb => hb.2.1)).only y (fun b hb => by omega)
    exact p2.mono (fun b _ hs => ⟨hs.1, own_nil b, hs.2.2⟩)
end
end Go.Proofs.YtfiijlmpfpmgiaaGreatDoor

/-
  name.newKeyer: a map of method values.
-/
namespace Go.Proofs.YtfiijlmpfpmgiaaGreatDoor
open Go.RowKit

theorem run_put2 (mty kt et : TypeId) (hm : Tryz.prog.underlying mty = some (.map kt et)) (hk : Tryz.prog.underlying kt = some (.int .i8)) (es : Array MapEntry) (w : World) (n : Nat) (k : Int) (v : Value) (hf : Instr.findNow (.int .i8) (.int .i8 k) es.toList 0 = some none) :
    (Instr.mapUpdate mty (.map (some w.heap.size)) (.int .i8 k) v).run Tryz.prog (w.alloc (.map es n)) = .ok () (w.alloc (.map (es.push { key := .int .i8 k, val := v, born := n }) (n + 1))) := by
  have hb : (w.alloc (.map es n)).heap[w.heap.size]? = some (.map es n) := (MapKept.heap_alloc w _).1
  have hc : (Instr.checkKey false 10000 kt (.int .i8 k)).run Tryz.prog (w.alloc (.map es n)) = .ok () (w.alloc (.map es n)) := MapKept.run_checkKey (k := .int .i8 k) hk (by simp [MapKept.IsKey]) false 9999
  simp only [Instr.mapUpdate, Sem.run_bind, run_underlying hm, MapKept.run_getObj_map hb, hc, MapKept.run_findKey hk hf, MapKept.run_setObj_map _ hb, Result.andThen]
  rw [heap_alloc_set]
/-- the rules by which keys are made; p: the keyer -/
def keyRow (p : Value) : Array MapEntry := #[⟨.int .i8 0, .func (.func 94) #[p] #[], 0⟩, ⟨.int .i8 1, .func (.func 95) #[p] #[], 1⟩, ⟨.int .i8 4, .func (.func 95) #[p] #[], 2⟩, ⟨.int .i8 7, .func (.func 95) #[p] #[], 3⟩, ⟨.int .i8 10, .func (.func 95) #[p] #[], 4⟩, ⟨.int .i8 12, .func (.func 95) #[p] #[], 5⟩, ⟨.int .i8 14, .func (.func 95) #[p] #[], 6⟩, ⟨.int .i8 15, .func (.func 95) #[p] #[], 7⟩, ⟨.int .i8 17, .func (.func 95) #[p] #[], 8⟩, ⟨.int .i8 19, .func (.func 96) #[p] #[], 9⟩, ⟨.int .i8 20, .func (.func 97) #[p] #[], 10⟩]
theorem look_rule (p : Value) (w : World) (r c : Nat) (hb : w.heap[r]? = some (.map (keyRow p) c)) :
    (Instr.lookup 159 (.map (some r)) (.int .i8 1) false).run Tryz.prog w = .ok (.func (.func 95) #[p] #[]) w := by
  have hf : Instr.findNow (.int .i8) (.int .i8 1) (keyRow p).toList 0 = some (some (1, .func (.func 95) #[p] #[])) := by rfl
  have hc : (Instr.checkKey (keyRow p).isEmpty 10000 135 (.int .i8 1)).run Tryz.prog w = .ok () w := MapKept.run_checkKey (k := .int .i8 1) Tryz.underlying135 (by simp [MapKept.IsKey]) _ 9999
  simp only [Instr.lookup, Sem.run_bind, run_underlying Tryz.underlying159, MapKept.run_getObj_map hb, hc, MapKept.run_findKey Tryz.underlying135 hf, Result.andThen, Sem.run_pure]
  simp
set_option maxRecDepth 100000 in
set_option maxHeartbeats 2000000 in
theorem newKeyer_any (w : World) (p : Nat) :
    Calls Tryz.prog 67 #[.pointer (some ⟨p, 0, none⟩)] w fun e w' => e = .returned (.pointer (some ⟨w.heap.size, 0, none⟩)) ∧ w'.heap[w.heap.size]? = some (.cells #[.pointer (some ⟨p, 0, none⟩), .map (some (w.heap.size + 1)), .slice none 0 0] 161 (0, 0)) ∧ w'.heap[w.heap.size + 1]? = some (.map (keyRow (.pointer (some ⟨w.heap.size, 0, none⟩))) 11) ∧ Ext w w' := by
  have hmm := @run_makeMap Tryz.prog
  obtain ⟨W, hW⟩ : ∃ W, W = w.alloc (.cells #[.pointer (some ⟨p, 0, none⟩), .map none, .slice none 0 0] 161) := ⟨_, rfl⟩
  have hz : W.heap.size = w.heap.size + 1 := by rw [hW]; simp
  have hp := fun es n k v hf => run_put2 159 135 162 Tryz.underlying159 Tryz.underlying135 es W n k v hf
  rw [hz] at hp
  obtain ⟨m1, hm1⟩ : ∃ m : Array MapEntry, m = (#[] : Array MapEntry).push ⟨.int .i8 0, .func (.func 94) #[.pointer (some ⟨w.heap.size, 0, none⟩)] #[], 0⟩ := ⟨_, rfl⟩
  obtain ⟨m2, hm2⟩ : ∃ m : Array MapEntry, m = m1.push ⟨.int .i8 1, .func (.func 95) #[.pointer (some ⟨w.heap.size, 0, none⟩)] #[], 1⟩ := ⟨_, rfl⟩
  obtain ⟨m3, hm3⟩ : ∃ m : Array MapEntry, m = m2.push ⟨.int .i8 4, .func (.func 95) #[.pointer (some ⟨w.heap.size, 0, none⟩)] #[], 2⟩ := ⟨_, rfl⟩
  obtain ⟨m4, hm4⟩ : ∃ m : Array MapEntry, m = m3.push ⟨.int .i8 7, .func (.func 95) #[.pointer (some ⟨w.heap.size, 0, none⟩)] #[], 3⟩ := ⟨_, rfl⟩
  obtain ⟨m5, hm5⟩ : ∃ m : Array MapEntry, m = m4.push ⟨.int .i8 10, .func (.func 95) #[.pointer (some ⟨w.heap.size, 0, none⟩)] #[], 4⟩ := ⟨_, rfl⟩
  obtain ⟨m6, hm6⟩ : ∃ m : Array MapEntry, m = m5.push ⟨.int .i8 12, .func (.func 95) #[.pointer (some ⟨w.heap.size, 0, none⟩)] #[], 5⟩ := ⟨_, rfl⟩
  obtain ⟨m7, hm7⟩ : ∃ m : Array MapEntry, m = m6.push ⟨.int .i8 14, .func (.func 95) #[.pointer (some ⟨w.heap.size, 0, none⟩)] #[], 6⟩ := ⟨_, rfl⟩
  obtain ⟨m8, hm8⟩ : ∃ m : Array MapEntry, m = m7.push ⟨.int .i8 15, .func (.func 95) #[.pointer (some ⟨w.heap.size, 0, none⟩)] #[], 7⟩ := ⟨_, rfl⟩
  obtain ⟨m9, hm9⟩ : ∃ m : Array MapEntry, m = m8.push ⟨.int .i8 17, .func (.func 95) #[.pointer (some ⟨w.heap.size, 0, none⟩)] #[], 8⟩ := ⟨_, rfl⟩
  obtain ⟨m10, hm10⟩ : ∃ m : Array MapEntry, m = m9.push ⟨.int .i8 19, .func (.func 96) #[.pointer (some ⟨w.heap.size, 0, none⟩)] #[], 9⟩ := ⟨_, rfl⟩
  obtain ⟨m11, hm11⟩ : ∃ m : Array MapEntry, m = m10.push ⟨.int .i8 20, .func (.func 97) #[.pointer (some ⟨w.heap.size, 0, none⟩)] #[], 10⟩ := ⟨_, rfl⟩
  have p0 : (Instr.mapUpdate 159 (.map (some (w.heap.size + 1))) (.int .i8 0) (.func (.func 94) #[.pointer (some ⟨w.heap.size, 0, none⟩)] #[])).run Tryz.prog (W.alloc (.map #[] 0)) = .ok () (W.alloc (.map m1 1)) := by rw [hm1]; exact hp #[] 0 0 _ (by rfl)
  have p1 : (Instr.mapUpdate 159 (.map (some (w.heap.size + 1))) (.int .i8 1) (.func (.func 95) #[.pointer (some ⟨w.heap.size, 0, none⟩)] #[])).run Tryz.prog (W.alloc (.map m1 1)) = .ok () (W.alloc (.map m2 2)) := by rw [hm2]; exact hp m1 1 1 _ (by rw [hm1]; rfl)
  have p2 : (Instr.mapUpdate 159 (.map (some (w.heap.size + 1))) (.int .i8 4) (.func (.func 95) #[.pointer (some ⟨w.heap.size, 0, none⟩)] #[])).run Tryz.prog (W.alloc (.map m2 2)) = .ok () (W.alloc (.map m3 3)) := by rw [hm3]; exact hp m2 2 4 _ (by rw [hm2, hm1]; rfl)
  have p3 : (Instr.mapUpdate 159 (.map (some (w.heap.size + 1))) (.int .i8 7) (.func (.func 95) #[.pointer (some ⟨w.heap.size, 0, none⟩)] #[])).run Tryz.prog (W.alloc (.map m3 3)) = .ok () (W.alloc (.map m4 4)) := by rw [hm4]; exact hp m3 3 7 _ (by rw [hm3, hm2, hm1]; rfl)
  have p4 : (Instr.mapUpdate 159 (.map (some (w.heap.size + 1))) (.int .i8 10) (.func (.func 95) #[.pointer (some ⟨w.heap.size, 0, none⟩)] #[])).run Tryz.prog (W.alloc (.map m4 4)) = .ok () (W.alloc (.map m5 5)) := by rw [hm5]; exact hp m4 4 10 _ (by rw [hm4, hm3, hm2, hm1]; rfl)
  have p5 : (Instr.mapUpdate 159 (.map (some (w.heap.size + 1))) (.int .i8 12) (.func (.func 95) #[.pointer (some ⟨w.heap.size, 0, none⟩)] #[])).run Tryz.prog (W.alloc (.map m5 5)) = .ok () (W.alloc (.map m6 6)) := by rw [hm6]; exact hp m5 5 12 _ (by rw [hm5, hm4, hm3, hm2, hm1]; rfl)
  have p6 : (Instr.mapUpdate 159 (.map (some (w.heap.size + 1))) (.int .i8 14) (.func (.func 95) #[.pointer (some ⟨w.heap.size, 0, none⟩)] #[])).run Tryz.prog (W.alloc (.map m6 6)) = .ok () (W.alloc (.map m7 7)) := by rw [hm7]; exact hp m6 6 14 _ (by rw [hm6, hm5, hm4, hm3, hm2, hm1]; rfl)
  have p7 : (Instr.mapUpdate 159 (.map (some (w.heap.size + 1))) (.int .i8 15) (.func (.func 95) #[.pointer (some ⟨w.heap.size, 0, none⟩)] #[])).run Tryz.prog (W.alloc (.map m7 7)) = .ok () (W.alloc (.map m8 8)) := by rw [hm8]; exact hp m7 7 15 _ (by rw [hm7, hm6, hm5, hm4, hm3, hm2, hm1]; rfl)
  have p8 : (Instr.mapUpdate 159 (.map (some (w.heap.size + 1))) (.int .i8 17) (.func (.func 95) #[.pointer (some ⟨w.heap.size, 0, none⟩)] #[])).run Tryz.prog (W.alloc (.map m8 8)) = .ok () (W.alloc (.map m9 9)) := by rw [hm9]; exact hp m8 8 17 _ (by rw [hm8, hm7, hm6, hm5, hm4, hm3, hm2, hm1]; rfl)
  have p9 : (Instr.mapUpdate 159 (.map (some (w.heap.size + 1))) (.int .i8 19) (.func (.func 96) #[.pointer (some ⟨w.heap.size, 0, none⟩)] #[])).run Tryz.prog (W.alloc (.map m9 9)) = .ok () (W.alloc (.map m10 10)) := by rw [hm10]; exact hp m9 9 19 _ (by rw [hm9, hm8, hm7, hm6, hm5, hm4, hm3, hm2, hm1]; rfl)
  have p10 : (Instr.mapUpdate 159 (.map (some (w.heap.size + 1))) (.int .i8 20) (.func (.func 97) #[.pointer (some ⟨w.heap.size, 0, none⟩)] #[])).run Tryz.prog (W.alloc (.map m10 10)) = .ok () (W.alloc (.map m11 11)) := by rw [hm11]; exact hp m10 10 20 _ (by rw [hm10, hm9, hm8, hm7, hm6, hm5, hm4, hm3, hm2, hm1]; rfl)
  have hL : Hid (m11 = keyRow (.pointer (some ⟨w.heap.size, 0, none⟩))) := by
    show _ = _
    rw [hm11, hm10, hm9, hm8, hm7, hm6, hm5, hm4, hm3, hm2, hm1]
    rfl
  clear hp hm1 hm2 hm3 hm4 hm5 hm6 hm7 hm8 hm9 hm10 hm11
  subst hW
  go_enter Tryz.func67, Tryz.ntmps67
  go_wp2
  go_ret
  refine ⟨rfl, ?_, ?_, ((Ext.refl w).alloc _).alloc _⟩
  · exact (heap_alloc_old _ _ (by simp)).trans (heap_alloc_new w _)
  · have h9 := heap_alloc_new (w.alloc (.cells #[.pointer (some ⟨p, 0, none⟩), .map (some (w.heap.size + 1)), .slice none 0 0] 161)) (.map m11 11)
    rw [World.size_alloc] at h9
    rw [← hL.out]
    exact h9
end Go.Proofs.YtfiijlmpfpmgiaaGreatDoor

/-
  A reader goes on, plain: it moves, and every \ of the value has what belongs to it.
-/
namespace Go.Proofs.YtfiijlmpfpmgiaaGreatDoor
open Go.RowKit

theorem indexAny_none_before : ∀ (l : List UInt8) (b : UInt8) (j : Nat), l[j]? = some b → (j : Int) < (if Lib.indexAny l apartL < 0 then (l.length : Int) else Lib.indexAny l apartL) → apartL.contains b = false
  | [], _, _, h, _ => by simp at h
  | c :: l, b, j, h, hj => by
    unfold Lib.indexAny at hj
    cases hc : apartL.contains c with
    | true =>
      rw [hc] at hj
      simp at hj
      omega
    | false =>
      rw [hc] at hj
      simp only [Bool.false_eq_true, if_false] at hj
      cases j with
      | zero => simp at h; subst h; exact hc
      | succ j =>
        have hge := Lib.indexAny_ge apartL l
        refine indexAny_none_before l b j (by simpa using h) ?_
        split at hj
        · rename_i e
          have e' : Lib.indexAny l apartL = -1 := by simpa using e
          rw [if_pos (by omega)]
          rw [if_pos (by omega)] at hj
          simp at hj; omega
        · rename_i e
          have e' : Lib.indexAny l apartL ≠ -1 := by simpa using e
          rw [if_neg (by omega)]
          rw [if_neg (by omega)] at hj
          omega
theorem run_plain (l : List UInt8) : ∀ b ∈ l.take (runN l), b ≠ 92 := by
  intro b hb
  obtain ⟨j, hj⟩ := List.getElem?_of_mem hb
  have hlt : j < runN l := by
    have := (List.getElem?_eq_some_iff.1 hj).1
    rw [List.length_take] at this; omega
  rw [List.getElem?_take_of_lt hlt] at hj
  have := indexAny_none_before l b j hj (by
    unfold runN at hlt
    split at hlt
    · rename_i h; rw [if_pos h]; omega
    · rename_i h; rw [if_neg h]; omega)
  rintro rfl
  exact absurd this (by decide)
theorem ext_split (s : ByteArray) (f p q : Nat) (h1 : f ≤ p) (h2 : p ≤ q) : byt (s.extract f q) = byt (s.extract f p) ++ ((byt s).drop p).take (q - p) := by
  rw [byt_extract, byt_extract, show q - f = (p - f) + (q - p) by omega, List.take_add, List.drop_drop, show f + (p - f) = p by omega]
theorem bAt_head (s : ByteArray) (p : Nat) (hp : p < s.size) : ((byt s).drop p).head? = some s[p] := by rw [drop_one s p hp]; rfl
/-- some of a value was taken -/
theorem tv_ok (s : ByteArray) (f p : Nat) (h1 : f ≤ p) (hp : p < s.size) (hz : (tvP s p).1 = 0) (hok : EscOk (byt (s.extract f p))) : p < (tvP s p).2 ∧ (tvP s p).2 ≤ s.size ∧ EscOk (byt (s.extract f (tvP s p).2)) := by
  have hlen : ((byt s).drop p).length = s.size - p := by rw [List.length_drop, byt_length]
  unfold tvP at hz ⊢
  rw [bAt_in s p hp] at hz ⊢
  by_cases h92 : s[p] = 92
  · have hci : (s[p].toNat : Int) = 92 := by rw [h92]; rfl
    rw [if_pos hci] at hz ⊢
    have hh : ((byt s).drop p).head? = some 92 := by rw [bAt_head s p hp, h92]
    by_cases hn : (escP ((byt s).drop p)).2 = 0
    · rw [if_pos hn] at hz; simp at hz
    · rw [if_neg hn]
      have hl := escP_len ((byt s).drop p)
      refine ⟨by show p < p + _; omega, by show p + _ ≤ _; omega, ?_⟩
      rw [ext_split s f p _ h1 (Nat.le_add_right _ _)]
      refine hok.app ?_
      rw [Nat.add_sub_cancel_left]
      have hc := escP_cut ((byt s).drop p) (escP ((byt s).drop p)).2 hh (by omega) (Nat.le_refl _)
      refine .esc _ ?_ (by rw [hc]; omega) ?_
      · rw [drop_one s p hp, h92]
        obtain ⟨n, hn'⟩ : ∃ n, (escP (92 :: (byt s).drop (p + 1))).2 = n + 1 := by
          rw [drop_one s p hp, h92] at hn
          exact ⟨_, (Nat.succ_pred_eq_of_ne_zero hn).symm⟩
        rw [hn']; rfl
      · rw [hc, List.drop_of_length_le (by rw [List.length_take]; omega)]
        exact .nil
  · rw [if_neg (ne92 h92)] at hz ⊢
    by_cases h32 : s[p] = 32
    · have hci : (s[p].toNat : Int) = 32 := by rw [h32]; rfl
      rw [if_pos hci] at hz ⊢
      cases hb : behB s (p + 1) with
      | true => rw [hb] at hz; simp at hz
      | false =>
        simp only [Bool.false_eq_true, if_false]
        refine ⟨by omega, by omega, ?_⟩
        rw [ext_split s f p (p + 1) h1 (by omega), Nat.add_sub_cancel_left]
        refine hok.app ?_
        rw [drop_one s p hp]
        exact EscOk.run _ (fun b hb => by simp at hb; subst hb; exact h92)
    · rw [if_neg (ne32 h32)] at hz ⊢
      by_cases hn : runN ((byt s).drop p) = 0
      · rw [if_pos hn] at hz; simp at hz
      · rw [if_neg hn]
        have hl := runN_len ((byt s).drop p)
        refine ⟨by show p < p + _; omega, by show p + _ ≤ _; omega, ?_⟩
        rw [ext_split s f p _ h1 (Nat.le_add_right _ _), Nat.add_sub_cancel_left]
        exact hok.app (EscOk.run _ (run_plain _))
theorem tv_at (s : ByteArray) (p : Nat) (hz : (tvP s p).1 ≠ 0) : (tvP s p).2 = p := by
  unfold tvP at hz ⊢
  split
  · rename_i e; rw [if_pos e] at hz
    split
    · rfl
    · rename_i e2; rw [if_neg e2] at hz; exact absurd rfl hz
  · rename_i e; rw [if_neg e] at hz
    split
    · rename_i e2; rw [if_pos e2] at hz
      split
      · rfl
      · rename_i e3; rw [if_neg e3] at hz; exact absurd rfl hz
    · rename_i e2; rw [if_neg e2] at hz
      split
      · rfl
      · rename_i e3; rw [if_neg e3] at hz; exact absurd rfl hz
theorem tt_ok (s : ByteArray) (r : RS) (hp : r.pos ≤ s.size) (hz : (ttP s r).1 = 0) : r.pos < (ttP s r).2.pos ∧ (ttP s r).2.pos ≤ s.size ∧ (ttP s r).2.frm = (ttP s r).2.pos ∧ (ttP s r).2.prs = r.prs ∧ (ttP s r).2.pts = r.pts := by
  have hl := wGo_len ((byt s).drop r.pos) 0 false
  rw [List.length_drop, byt_length] at hl
  have hn : ttN s r.pos = r.pos + (wGo 0 false ((byt s).drop r.pos)).1 := rfl
  unfold ttP at hz ⊢
  split
  · rename_i e; rw [if_pos e] at hz; simp at hz
  · rename_i e; rw [if_neg e] at hz
    split
    · rename_i e2; rw [if_pos e2] at hz; simp at hz
    · exact ⟨by show r.pos < ttN s r.pos + 1; omega, by show ttN s r.pos + 1 ≤ _; omega, rfl, rfl, rfl⟩
theorem tt_same (s : ByteArray) (r : RS) : (ttP s r).2.prs = r.prs ∧ (ttP s r).2.pts = r.pts := by
  unfold ttP
  split
  · exact ⟨rfl, rfl⟩
  · split
    · exact ⟨rfl, rfl⟩
    · exact ⟨rfl, rfl⟩
theorem ep_ok (s : ByteArray) (r : RS) (hn : r.prs.length ≤ 7) (hm : r.pts.length ≤ 63) (hz : (epP s r).1 = 0) (hb : behB s r.pos = true) (hp : r.pos ≠ s.size) (hle : r.pos ≤ s.size) : (epP s r).2.pos = r.pos ∧ (epP s r).2.prs.length ≤ 7 ∧ (epP s r).2.pts.length ≤ 63 := by
  have hlt : r.pos < s.size := by omega
  unfold epP at hz ⊢
  split
  · rename_i e; rw [if_pos e] at hz
    simp only at hz
    split at hz
    · exact absurd hz (by decide)
    · rename_i e2
      exact ⟨rfl, by simp; omega, hm⟩
  · rename_i e; rw [if_neg e] at hz
    simp only at hz
    have h44 : bAt s r.pos = 44 := by
      unfold behB at hb
      simp only [Bool.or_eq_true, beq_iff_eq] at hb
      rcases hb with (h | h) | h
      · rw [bAt_in s r.pos hlt] at h; omega
      · exact h
      · exact absurd h e
    split at hz
    · exact absurd hz (by decide)
    · rename_i e2
      refine ⟨rfl, by simp, ?_⟩
      simp only [List.length_append, List.length_cons, List.length_nil]
      have : ¬ r.pts.length + 1 = 64 := fun h => e2 ⟨h44, h⟩
      omega
theorem ep_pos (s : ByteArray) (r : RS) : (epP s r).2.pos = r.pos := by
  unfold epP
  split <;> rfl
end Go.Proofs.YtfiijlmpfpmgiaaGreatDoor

/-
  A region that draws its order, whose last operation waits for all others: what an operation reads may be written by the last one.
-/
namespace Go.Proofs.YtfiijlmpfpmgiaaGreatDoor

section
variable {P : Program} {ops : Array Oper} {Q : Exit → Act → World → Prop} {md : Region.Mode} {S : World → Prop} {n : Nat}

/-- whatever order is picked from here on, and S holds behind every operation but the last -/
def wpAnyT (P : Program) (md : Region.Mode) (ops : Array Oper) (Q : Exit → Act → World → Prop) (S : World → Prop) (n : Nat) : Nat → Array Bool → Act → World → Prop
  | 0, listed, a, w => Region.ready md ops listed = [] ∧ Q .normal a w
  | fuel + 1, listed, a, w =>
    (Region.ready md ops listed = [] → Q .normal a w) ∧
    ∀ i ∈ Region.ready md ops listed, wpOp P ops Q i (fun a' w' => (i ≠ n → S w') ∧ wpAnyT P md ops Q S n fuel (listed.setIfInBounds i true) a' w') a w
theorem wpAny_of_last : ∀ (fuel : Nat) (listed : Array Bool) (a : Act) (w : World), wpAnyT P md ops Q S n fuel listed a w → wpAny P md ops Q fuel listed a w
  | 0, _, _, _, h => h
  | fuel + 1, _, _, _, h => ⟨h.1, fun i hi => wpOp_mono (fun a' w' h' => wpAny_of_last fuel _ a' w' h'.2) (h.2 i hi)⟩
theorem not_ready {j i : Nat} {listed : Array Bool} (h : Region.waitsFor md ops j i = true) (hi : i ∈ Region.ready md ops listed) : j ∉ Region.ready md ops listed := by
  intro hj
  obtain ⟨oj, hoj, e, he, hb, he2⟩ := Region.waitsFor_spec h
  obtain ⟨_, o2, ho2, hall⟩ := mem_ready.1 hj
  rw [hoj] at ho2
  obtain rfl := Option.some.inj ho2
  have h1 := hall e he hb
  have h0 := (mem_ready.1 hi).1
  rw [he2] at h1
  rcases Nat.lt_or_ge i listed.size with h' | h'
  · simp [h'] at h0 h1; rw [h0] at h1; cases h1
  · simp [Array.getElem?_eq_none h'] at h1
/-- an operation for which the last one waits may be taken first -/
theorem wpAnyT_first {i : Nat} {oi : Oper} {v : Value} (hi : ops[i]? = some oi) (hsel : ∀ (j : Nat) (o : Oper) cs b, ops[j]? = some o → o.op ≠ .select cs b) (hw : Region.waitsFor md ops n i = true)
    (hQ : ∀ c a w, Q (.panic c) (a.put oi.dst v) w → Q (.panic c) a w) :
    ∀ (fuel : Nat) (listed : Array Bool) (a : Act) (w : World),
      (∀ j oj, ops[j]? = some oj → j ≠ i → listed.getD j true = false → (∀ e ∈ oj.after, Region.binds md e = true → e.on ≠ i) → oi.apart ops oj = true) →
      i ∈ Region.ready md ops listed → YieldsIf P ops S oi v a → S w →
      wpAnyT P md ops Q S n fuel (listed.setIfInBounds i true) (a.put oi.dst v) w → wpAnyT P md ops Q S n (fuel + 1) listed a w := by
  intro fuel
  induction fuel with
  | zero =>
    intro listed a w _ hr hy hS H
    refine ⟨fun h => (by rw [h] at hr; cases hr), fun j hj => ?_⟩
    by_cases hji : j = i
    · subst hji; exact hy.wpOp hi hS ⟨fun _ => hS, H⟩
    · have := ready_mono hj hji
      rw [H.1] at this
      cases this
  | succ fuel ih =>
    intro listed a w hfree hr hy hS H
    refine ⟨fun h => (by rw [h] at hr; cases hr), fun j hj => ?_⟩
    by_cases hji : j = i
    · subst hji; exact hy.wpOp hi hS ⟨fun _ => hS, H⟩
    · have hjn : j ≠ n := fun e => not_ready hw hr (e ▸ hj)
      have h1 := H.2 j (ready_mono hj hji)
      obtain ⟨hjun, oj, hoj, hall⟩ := mem_ready.1 hj
      have hnot : ∀ e ∈ oj.after, Region.binds md e = true → e.on ≠ i := fun e he hb heq => by
        have h1 := hall e he hb
        have h0 := (mem_ready.1 hr).1
        rw [heq] at h1
        rcases Nat.lt_or_ge i listed.size with h' | h'
        · simp [h'] at h0 h1; rw [h0] at h1; cases h1
        · simp [Array.getElem?_eq_none h'] at h1
      have h2 := wpOp_putIf hoj (hfree j oj hoj hji hjun hnot) (fun cs b => hsel i oi cs b hi) (fun cs b => hsel j oj cs b hoj) hQ hy h1
      have hfree' : ∀ k ok, ops[k]? = some ok → k ≠ i → (listed.setIfInBounds j true).getD k true = false →
          (∀ e ∈ ok.after, Region.binds md e = true → e.on ≠ i) → oi.apart ops ok = true := fun k ok hk hki hun hno => by
        refine hfree k ok hk hki ?_ hno
        by_cases hjk : j = k
        · subst hjk; exact hjun
        · rw [getD_set_ne true hjk] at hun; exact hun
      refine wpOp_mono (fun a' w' h3 => ⟨fun _ => h3.2.1 hjn, ih (listed.setIfInBounds j true) a' w' hfree' (ready_mono hr (Ne.symm hji)) h3.1 (h3.2.1 hjn) ?_⟩) h2
      rw [Array.setIfInBounds_comm _ _ hji]
      exact h3.2.2
theorem wpAnyT_take {i : Nat} {oi : Oper} {v : Value} {fuel : Nat} {listed : Array Bool} {a : Act} {w : World} (hi : ops[i]? = some oi)
    (hs : Region.noSelect ops = true) (hf : Region.free md ops listed i = true) (hr : (Region.ready md ops listed).contains i = true) (hw : Region.waitsFor md ops n i = true)
    (hQ : ∀ c a w, Q (.panic c) (a.put oi.dst v) w → Q (.panic c) a w) (hy : YieldsIf P ops S oi v a) (hS : S w)
    (h : wpAnyT P md ops Q S n fuel (listed.setIfInBounds i true) (a.put oi.dst v) w) : wpAnyT P md ops Q S n (fuel + 1) listed a w :=
  wpAnyT_first hi (Region.noSelect_spec hs) hw hQ fuel listed a w (Region.free_spec hi hf) (by simpa using hr) hy hS h
/-- one alone may come up -/
theorem wpAnyT_one {i : Nat} {oi : Oper} {fuel : Nat} {listed : Array Bool} {a : Act} {w : World} (hi : ops[i]? = some oi) (hr : Region.ready md ops listed = [i])
    (h : if Region.wanted oi (yielded ops a.tmps) = true then oi.wp P a w (fun a' w' => (i ≠ n → S w') ∧ wpAnyT P md ops Q S n fuel (listed.setIfInBounds i true) a' w') Q else ((i ≠ n → S w) ∧ wpAnyT P md ops Q S n fuel (listed.setIfInBounds i true) (a.put oi.dst undef) w)) :
    wpAnyT P md ops Q S n (fuel + 1) listed a w := by
  refine ⟨fun h0 => absurd (hr ▸ h0) (by simp), fun j hj => ?_⟩
  rw [hr] at hj
  obtain rfl : j = i := by simpa using hj
  unfold wpOp
  simp only [hi]
  split
  · rename_i hw; rw [if_pos hw] at h; exact .inl h
  · rename_i hw; rw [if_neg hw] at h; exact h
theorem wpAnyT_done {fuel : Nat} {listed : Array Bool} {a : Act} {w : World} (hr : Region.ready md ops listed = []) (h : Q .normal a w) : wpAnyT P md ops Q S n fuel listed a w := by
  cases fuel with
  | zero => exact ⟨hr, h⟩
  | succ f => exact ⟨fun _ => h, by rw [hr]; simp⟩
theorem wp_region_last {id : Nat} {a : Act} {w : World} (S : World → Prop) (n : Nat) (hm : P.follows .mixedOrders = true)
    (h : wpAnyT P .any ops Q S n ops.size (Array.replicate ops.size false) a { w with drawn := w.drawn + 1 }) : (Code.region id ops true).wp P Q a w :=
  wp_region_any hm (wpAny_of_last _ _ _ _ h)
end
end Go.Proofs.YtfiijlmpfpmgiaaGreatDoor
