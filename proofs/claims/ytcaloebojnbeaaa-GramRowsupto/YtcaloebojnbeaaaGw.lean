/-
  Put and Drop of an index.
-/
import Derived.Test.YtcaloebojnbeaaaGv
namespace Go.Proofs.Ytcaloebojnbeaaa
open Go.RowKit Go.Maps

set_option maxRecDepth 100000 in
set_option maxHeartbeats 2000000 in
theorem cdrop_nil (w : World) (id : UInt64) : Calls Try.prog 29 #[.map none, .int .u64 (id.toNat : Int)] w fun e w' => e = .returned (.tuple #[]) ∧ w' = w := by
  have l1 := look_nilC w id
  have l2 := drop_nilC w id
  have hd : decide ((1 : Int) < 0) = false := by decide
  go_enter Try.func29, Try.ntmps29
  go_wp2
  go_end0
  exact ⟨rfl, rfl⟩
set_option maxRecDepth 100000 in
set_option maxHeartbeats 2000000 in
theorem cdrop_some (w : World) (c n : Nat) (f : UInt64 → Nat) (H : CtAt w c n f) (id : UInt64) (hn : n < 4611686018427387904) (hf : f id ≤ n) : Calls Try.prog 29 #[.map (some c), .int .u64 (id.toNat : Int)] w fun e w' => e = .returned (.tuple #[]) ∧ CtAt w' c (n + 1) (upd6 f id (f id - 1)) ∧ Only (fun k => k = c) w w' := by
  have l1 := H.look id
  obtain ⟨q, hq⟩ : ∃ q, f id = q := ⟨_, rfl⟩
  rw [hq] at l1 hf ⊢
  by_cases h1 : 1 < q
  · have h1i : (1 : Int) < (q : Int) := by omega
    obtain ⟨z, hz⟩ : ∃ z, q - 1 = z := ⟨_, rfl⟩
    have hzi : (q : Int) - 1 = (z : Int) := by omega
    obtain ⟨w', hs, hc, ho⟩ := H.store id z (by omega) (by omega) (by unfold maxLen; omega)
    rw [hz]
    have hch : Hid (CtAt w' c (n + 1) (upd6 f id z) ∧ Only (fun k => k = c) w w') := ⟨hc, ho⟩
    have hwz : IntKind.i64.wrap (z : Int) = (z : Int) := by rw [IntKind.wrap_i64]; omega
    clear hc ho hq hz H
    go_enter Try.func29, Try.ntmps29
    go_wp2
    go_end0
    exact ⟨rfl, hch.out.1, hch.out.2⟩
  · have h1i : decide ((1 : Int) < (q : Int)) = false := decide_eq_false (by omega)
    have hz : q - 1 = 0 := by omega
    obtain ⟨w', hs, hc, ho⟩ := H.drop id 0
    rw [hz]
    have hch : Hid (CtAt w' c (n + 1) (upd6 f id 0) ∧ Only (fun k => k = c) w w') := ⟨hc.mono (Nat.le_succ _), ho⟩
    clear hc ho hq hz H
    go_enter Try.func29, Try.ntmps29
    go_wp2
    go_end0
    exact ⟨rfl, hch.out.1, hch.out.2⟩
set_option maxRecDepth 100000 in
set_option maxHeartbeats 2000000 in
theorem Put_nil (w : World) (id : UInt64) (s : ByteArray) : Calls Try.prog 16 #[.pointer none, .int .u64 (id.toNat : Int), .string s] w fun e w' => e = .returned (.tuple #[]) ∧ w' = w := by
  go_enter Try.func16, Try.ntmps16
  go_wp2
  (try simp only [Exit.inBlock, Exit.then]); refine bodyPost_ret (results_none rfl _ _ _) rfl ?_
  exact ⟨rfl, rfl⟩
set_option maxRecDepth 100000 in
set_option maxHeartbeats 2000000 in
theorem Drop_nil (w : World) (id : UInt64) (s : ByteArray) : Calls Try.prog 17 #[.pointer none, .int .u64 (id.toNat : Int), .string s] w fun e w' => e = .returned (.tuple #[]) ∧ w' = w := by
  go_enter Try.func17, Try.ntmps17
  go_wp2
  (try simp only [Exit.inBlock, Exit.then]); refine bodyPost_ret (results_none rfl _ _ _) rfl ?_
  exact ⟨rfl, rfl⟩
def putL (G : UInt32 → UInt64 → Nat) (id : UInt64) (gs : List UInt32) : UInt32 → UInt64 → Nat := gs.foldl (fun G g => put1 G id g) G
def dropL (G : UInt32 → UInt64 → Nat) (id : UInt64) (gs : List UInt32) : UInt32 → UInt64 → Nat := gs.foldl (fun G g => drop1 G id g) G
theorem putL_take (G : UInt32 → UInt64 → Nat) (id : UInt64) (gs : List UInt32) (k : Nat) (h : k < gs.length) : putL G id (gs.take (k + 1)) = put1 (putL G id (gs.take k)) id gs[k] := by
  rw [List.take_succ_eq_append_getElem h, putL, List.foldl_append]; rfl
theorem dropL_take (G : UInt32 → UInt64 → Nat) (id : UInt64) (gs : List UInt32) (k : Nat) (h : k < gs.length) : dropL G id (gs.take (k + 1)) = drop1 (dropL G id (gs.take k)) id gs[k] := by
  rw [List.take_succ_eq_append_getElem h, dropL, List.foldl_append]; rfl
theorem putL_nodup (id : UInt64) : ∀ (gs : List UInt32) (G : UInt32 → UInt64 → Nat), gs.Nodup → ∀ g i, putL G id gs g i = if g ∈ gs ∧ i = id then G g i + 1 else G g i
  | [], G, _, g, i => by simp [putL]
  | x :: gs, G, h, g, i => by
    obtain ⟨h1, h2⟩ := List.nodup_cons.1 h
    show putL (put1 G id x) id gs g i = _
    rw [putL_nodup id gs (put1 G id x) h2 g i]
    unfold put1
    by_cases e : g = x
    · subst e; by_cases e2 : i = id <;> simp [h1, e2]
    · by_cases e2 : i = id <;> simp [e, e2]
theorem dropL_nodup (id : UInt64) : ∀ (gs : List UInt32) (G : UInt32 → UInt64 → Nat), gs.Nodup → ∀ g i, dropL G id gs g i = if g ∈ gs ∧ i = id then G g i - 1 else G g i
  | [], G, _, g, i => by simp [dropL]
  | x :: gs, G, h, g, i => by
    obtain ⟨h1, h2⟩ := List.nodup_cons.1 h
    show dropL (drop1 G id x) id gs g i = _
    rw [dropL_nodup id gs (drop1 G id x) h2 g i]
    unfold drop1
    by_cases e : g = x
    · subst e; by_cases e2 : i = id <;> simp [h1, e2]
    · by_cases e2 : i = id <;> simp [e, e2]
/-- what stands in the loops of Put and Drop: the index, whose blocks lie in S or are new, and the grams -/
def PtS (w wr : World) (S : Nat → Prop) (p n : Nat) (G : UInt32 → UInt64 → Nat) (v : Value) (gs : List UInt32) : Prop := IxAt wr (Up S w.heap.size) p n G ∧ Only S w wr ∧ Sl U3 wr v gs
theorem up_of {S : Nat → Prop} {B k : Nat} (h : B ≤ k) : Up S B k := .inr h
/-- a block of the index is written -/
theorem PtS.step {w wr w' : World} {S : Nat → Prop} {v : Value} {gs : List UInt32} {c : Nat} {es : Array MapEntry} {cl : Nat} (ho : Only S w wr) (hs : Sl U3 wr v gs) (hc : wr.heap[c]? = some (.map es cl)) (hS : Up S w.heap.size c) (x : Only (fun k => k = c) wr w') : Only S w w' ∧ Sl U3 w' v gs :=
  ⟨ho.trans (x.mono (fun k _ e => by have e' : k = c := e; rw [e']; exact hS)), Sl.only hs x (map_isCells hc)⟩
set_option maxRecDepth 100000 in
set_option maxHeartbeats 4000000 in
theorem Put_any (w : World) (S : Nat → Prop) (p n : Nat) (G : UInt32 → UInt64 → Nat) (H : IxAt w S p n G) (id : UInt64) (s : ByteArray) (hn : n + 2 * s.size ≤ 17592186044000) :
    Calls Try.prog 16 #[.pointer (some ⟨p, 0, none⟩), .int .u64 (id.toNat : Int), .string s] w fun e w' => e = .returned (.tuple #[]) ∧ IxAt w' (Up S w.heap.size) p (n + 2 * s.size) (putL G id (G3.gramsL (byt s))) ∧ Only S w w' := by
  have hg := G3.Grams_any w s (by omega)
  have hgl := G3.gramsL_len (byt s)
  rw [byt_length] at hgl
  have hmm := @run_makeMap Try.prog
  have hHh : Hid (IxAt w S p n G) := H
  obtain ⟨gs, hgs⟩ : ∃ gs, G3.gramsL (byt s) = gs := ⟨_, rfl⟩
  rw [hgs] at hg hgl ⊢
  obtain ⟨N, hN⟩ : ∃ N, s.size = N := ⟨_, rfl⟩
  rw [hN] at hn hgl ⊢
  clear H hgs hN
  go_enter Try.func16, Try.ntmps16
  go_wp2_with fail
  go_at_call 11
  refine hg.mono ?_
  rintro _ w1 ⟨u, rfl, r1, x1⟩
  obtain ⟨ga, gn, gc, rfl, hgn⟩ := r1.sl.shape
  have hI : Hid (PtS w w1 S p (n + 2 * 0) (putL G id (gs.take 0)) (.slice ga gn gc) gs) := ⟨(hHh.out.ext x1).wide (fun k h => .inl h), x1.only, r1.sl⟩
  have hgnl : gn ≤ N := by have := hgn.out; omega
  clear hg r1 x1 hHh hgl
  go_wp2
  go_loopw [7, 13] (fun _ i wr => ∃ k : Nat, k ≤ gn ∧ i = .int .i64 k ∧ Hid (PtS w wr S p (n + 2 * k) (putL G id (gs.take k)) (.slice ga gn gc) gs)) (fun _ i _ => gn - (intOf i).toNat)
  case atStart => exact ⟨0, Nat.zero_le _, rfl, hI.out⟩
  case round =>
    obtain ⟨k, hk, rfl, HA⟩ := hrel
    by_cases hlt : k < gn
    · have hlt' : (k : Int) < (gn : Int) := by omega
      have hkl : k < gs.length := by have := hgn.out; omega
      obtain ⟨⟨m, h, HX, hSp, hSm, hSc⟩, hO, hS⟩ := HA.out
      obtain ⟨g0, o0, e0, ck⟩ := hS.at k hkl
      subst e0
      have hst : Hid (putL G id (gs.take (k + 1)) = put1 (putL G id (gs.take k)) id gs[k]) := putL_take G id gs k hkl
      unfold U3 at ck
      generalize gs[k] = g at *
      obtain ⟨n1, hn1⟩ : ∃ n1, n1 = n + 2 * k := ⟨_, rfl⟩
      have hn1b : n1 + 2 ≤ 17592186044000 := by omega
      have hn1h : Hid (n + 2 * (k + 1) = n1 + 1 + 1) := by show _ = _; omega
      rw [← hn1] at HX
      obtain ⟨G1, hG1⟩ : ∃ G1, putL G id (gs.take k) = G1 := ⟨_, rfl⟩
      rw [hG1] at HX hst
      have cp := HX.box.cell
      have l1 := HX.out.look g
      have e1 := eq_nilm (h g) wr
      have hK : Hid (IxH wr p m h n1 G1 ∧ Only S w wr ∧ Sl U3 wr (.slice (some ⟨g0, o0, none⟩) gn gc) gs) := ⟨HX, hO, hS⟩
      have hSs : Hid (Up S w.heap.size p ∧ Up S w.heap.size m ∧ ∀ g c, h g = some c → Up S w.heap.size c) := ⟨hSp, hSm, hSc⟩
      clear HA hS hO HX hn1 hG1 hSp hSm hSc hI
      go_upto_if 23 with fail
      go_cut [] (fun wc => ∃ h' c, h' g = some c ∧ Hid (IxH wc p m h' (n1 + 1) G1 ∧ Only S w wc ∧ Sl U3 wc (.slice (some ⟨g0, o0, none⟩) gn gc) gs ∧ ∀ g c, h' g = some c → Up S w.heap.size c))
      case first =>
        cases hhg : h g with
        | some c =>
          simp only [Option.isNone_some]
          go_wp2
          go_meet
          case rel => exact ⟨h, c, hhg, hK.out.1.mono (Nat.le_succ _), hK.out.2.1, hK.out.2.2, hSs.out.2.2⟩
        | none =>
          obtain ⟨w2, hs2, ho2, x2⟩ := (hK.out.1.out.ext ((Ext.refl wr).alloc (.map #[] 0))).store g wr.heap.size (by unfold maxLen; omega)
          obtain ⟨es, cl, hm2⟩ := (hK.out.1.out.ext ((Ext.refl wr).alloc (.map #[] 0))).obj
          have hN := hK.out.1.new g hhg ho2 x2
          have hP := PtS.step (hK.out.2.1.alloc (.map #[] 0)) (hK.out.2.2.ext ((Ext.refl wr).alloc (.map #[] 0))) hm2 hSs.out.2.1 x2
          have hPh : Hid _ := hP
          have hNh : Hid _ := hN
          have hsz : Hid (w.heap.size ≤ wr.heap.size) := hK.out.2.1.size
          clear hP hN ho2 x2 hm2
          simp only [Option.isNone_none]
          go_wp2
          go_meet
          case rel =>
            refine ⟨upd3 h g (some wr.heap.size), wr.heap.size, by rw [upd3, if_pos rfl], hNh.out, hPh.out.1, hPh.out.2, fun g' c' e => ?_⟩
            unfold upd3 at e
            split at e
            · rw [← Option.some.inj e]; exact .inr hsz.out
            · exact hSs.out.2.2 g' c' e
      case rest =>
        obtain ⟨h', c, hc, HC⟩ := hcut
        have cp2 := HC.out.1.box.cell
        have l2 := HC.out.1.out.look g
        rw [hc] at l2
        have hCt := HC.out.1.ctAt hc
        have l3 := hCt.look id
        have hle := HC.out.1.le g id
        obtain ⟨q, hq⟩ : ∃ q, G1 g id = q := ⟨_, rfl⟩
        rw [hq] at l3 hle
        obtain ⟨z, hz⟩ : ∃ z, z = q + 1 := ⟨_, rfl⟩
        have hzi : (q : Int) + 1 = (z : Int) := by omega
        have hwz : IntKind.i64.wrap (z : Int) = (z : Int) := by rw [IntKind.wrap_i64]; omega
        obtain ⟨w3, hs3, ho3, x3⟩ := hCt.store id z (by omega) (by omega) (by unfold maxLen; omega)
        obtain ⟨es, cl, hm3⟩ := hCt.obj
        have hP := PtS.step HC.out.2.1 HC.out.2.2.1 hm3 (HC.out.2.2.2 g c hc) x3
        have hN : IxH w3 p m h' (n1 + 1 + 1) (put1 G1 id g) := HC.out.1.turn g hc (by rw [put1_at, hq, ← hz]; exact ho3) x3 (fun g' hg' => put1_off G1 id g g' hg') (fun i => by
          rw [put1_at]
          unfold upd6
          split
          · omega
          · exact Nat.le_trans (HC.out.1.le g i) (Nat.le_succ _))
        have hPh : Hid _ := hP
        have hNh : Hid _ := hN
        clear hP hN ho3 x3 hm3 hq hz hCt
        go_wp2
        go_roundw
        case rel => exact ⟨k + 1, hlt, by go_num, ⟨m, h', by rw [hst.out, hn1h.out]; exact hNh.out, hSs.out.1, hSs.out.2.1, HC.out.2.2.2⟩, hPh.out.1, hPh.out.2⟩
        case measure => simp [intOf]; omega
    · have hlt' : ¬ (k : Int) < (gn : Int) := by omega
      have ht : Hid (gs.take k = gs) := List.take_of_length_le (by have := hgn.out; omega)
      obtain ⟨h1, h2, _⟩ := HA.out
      go_wp2
      go_end0
      refine ⟨rfl, ?_, h2⟩
      rw [ht.out] at h1
      exact h1.mono (by omega)
end Go.Proofs.Ytcaloebojnbeaaa
