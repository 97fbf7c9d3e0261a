/-
  Drop of an index.
-/
import Derived.Test.YtcaloebojnbeaaaGw
namespace Go.Proofs.Ytcaloebojnbeaaa
open Go.RowKit Go.Maps

theorem cdrop_any (w : World) (o : Option Nat) (n : Nat) (f : UInt64 → Nat) (H : CtOp w n o f) (id : UInt64) (hn : n < 4611686018427387904) (hf : f id ≤ n) :
    Calls Try.prog 29 #[.map o, .int .u64 (id.toNat : Int)] w fun e w' => e = .returned (.tuple #[]) ∧ Hid (CtOp w' (n + 1) o (upd6 f id (f id - 1)) ∧ Only (fun k => o = some k) w w') := by
  cases o with
  | none =>
    refine (cdrop_nil w id).mono ?_
    rintro _ w' ⟨rfl, rfl⟩
    refine ⟨rfl, fun i => ?_, Only.refl _ _⟩
    unfold upd6
    split
    · rw [H id]
    · exact H i
  | some c =>
    refine (cdrop_some w c n f H id hn hf).mono ?_
    rintro _ w' ⟨rfl, h1, h2⟩
    exact ⟨rfl, h1, h2.mono (fun k _ e => by have e' : k = c := e; rw [e'])⟩
theorem IxH.turnO {w w' : World} {p m n : Nat} {h : UInt32 → Option Nat} {G G' : UInt32 → UInt64 → Nat} (H : IxH w p m h n G) (g : UInt32) (hw : CtOp w' (n + 1) (h g) (G' g)) (x : Only (fun k => h g = some k) w w') (hoff : ∀ g', g' ≠ g → G' g' = G g') (hle : ∀ id, G' g id ≤ n + 1) : IxH w' p m h (n + 1) G' := by
  cases hg : h g with
  | some c =>
    rw [hg] at hw x
    exact H.turn g hg hw (x.mono (fun k _ e => (Option.some.inj e).symm)) hoff hle
  | none =>
    rw [hg] at hw x
    have x2 : Only (fun _ => False) w w' := x.mono (fun k _ e => by cases e)
    refine ⟨bOnly H.box x2 (fun h => h), (H.out.only x2 (fun h => h)).mono (Nat.le_succ _), fun g' => ?_, H.inj, H.ne, fun g' id => ?_⟩
    · by_cases e : g' = g
      · subst e; rw [hg]; exact hw
      · rw [hoff g' e]
        exact ((H.ins g').only x2 (fun _ _ h => h)).mono (Nat.le_succ _)
    · by_cases e : g' = g
      · subst e; exact hle id
      · rw [hoff g' e]; exact Nat.le_trans (H.le g' id) (Nat.le_succ _)
theorem PtS.stepO {w wr w' : World} {S : Nat → Prop} {v : Value} {gs : List UInt32} {n : Nat} {o : Option Nat} {f : UInt64 → Nat} (ho : Only S w wr) (hs : Sl U3 wr v gs) (hc : CtOp wr n o f) (hS : ∀ c, o = some c → Up S w.heap.size c) (x : Only (fun k => o = some k) wr w') : Only S w w' ∧ Sl U3 w' v gs := by
  refine ⟨ho.trans (x.mono (fun k _ e => hS k e)), Sl.only hs x ?_⟩
  intro g cs t fz e hk
  have hk' : o = some g := hk
  subst hk'
  obtain ⟨es, cl, h9⟩ := CtAt.obj hc
  rw [h9] at e
  cases e
theorem Many.none {f : UInt64 → Nat} (h : Many f 0) : ∀ id, f id = 0 := by
  obtain ⟨l, _, h2, h3⟩ := h
  intro id
  have h4 : l = [] := List.eq_nil_of_length_eq_zero h3
  have h5 := h2 id
  rw [h4] at h5
  simp at h5
  omega
set_option maxRecDepth 100000 in
set_option maxHeartbeats 4000000 in
theorem Drop_any (w : World) (S : Nat → Prop) (p n : Nat) (G : UInt32 → UInt64 → Nat) (H : IxAt w S p n G) (id : UInt64) (s : ByteArray) (hn : n + 2 * s.size ≤ 17592186044000) :
    Calls Try.prog 17 #[.pointer (some ⟨p, 0, none⟩), .int .u64 (id.toNat : Int), .string s] w fun e w' => e = .returned (.tuple #[]) ∧ IxAt w' (Up S w.heap.size) p (n + 2 * s.size) (dropL G id (G3.gramsL (byt s))) ∧ Only S w w' := by
  have hg := G3.Grams_any w s (by omega)
  have hgl := G3.gramsL_len (byt s)
  rw [byt_length] at hgl
  have hHh : Hid (IxAt w S p n G) := H
  obtain ⟨gs, hgs⟩ : ∃ gs, G3.gramsL (byt s) = gs := ⟨_, rfl⟩
  rw [hgs] at hg hgl ⊢
  obtain ⟨N, hN⟩ : ∃ N, s.size = N := ⟨_, rfl⟩
  rw [hN] at hn hgl ⊢
  clear H hgs hN
  go_enter Try.func17, Try.ntmps17
  go_wp2_with fail
  go_at_call 11
  refine hg.mono ?_
  rintro _ w1 ⟨u, rfl, r1, x1⟩
  obtain ⟨ga, gn, gc, rfl, hgn⟩ := r1.sl.shape
  have hI : Hid (PtS w w1 S p (n + 2 * 0) (dropL G id (gs.take 0)) (.slice ga gn gc) gs) := ⟨(hHh.out.ext x1).wide (fun k h => .inl h), x1.only, r1.sl⟩
  have hgnl : gn ≤ N := by have := hgn.out; omega
  clear hg r1 x1 hHh hgl
  go_wp2
  go_loopw [7, 13] (fun _ i wr => ∃ k : Nat, k ≤ gn ∧ i = .int .i64 k ∧ Hid (PtS w wr S p (n + 2 * k) (dropL G id (gs.take k)) (.slice ga gn gc) gs)) (fun _ i _ => gn - (intOf i).toNat)
  case atStart => exact ⟨0, Nat.zero_le _, rfl, hI.out⟩
  case round =>
    obtain ⟨k, hk, rfl, HA⟩ := hrel
    by_cases hlt : k < gn
    · have hlt' : (k : Int) < (gn : Int) := by omega
      have hkl : k < gs.length := by have := hgn.out; omega
      obtain ⟨⟨m, h, HX, hSp, hSm, hSc⟩, hO, hS⟩ := HA.out
      obtain ⟨g0, o0, e0, ck⟩ := hS.at k hkl
      subst e0
      have hst : Hid (dropL G id (gs.take (k + 1)) = drop1 (dropL G id (gs.take k)) id gs[k]) := dropL_take G id gs k hkl
      unfold U3 at ck
      generalize gs[k] = g at *
      obtain ⟨n1, hn1⟩ : ∃ n1, n1 = n + 2 * k := ⟨_, rfl⟩
      have hn1b : n1 + 2 ≤ 17592186044000 := by omega
      have hn1h : Hid (n + 2 * (k + 1) = n1 + 1 + 1) := by show _ = _; omega
      rw [← hn1] at HX
      obtain ⟨G1, hG1⟩ : ∃ G1, dropL G id (gs.take k) = G1 := ⟨_, rfl⟩
      rw [hG1] at HX hst
      have cp := HX.box.cell
      have l1 := HX.out.look g
      have hcd := cdrop_any wr (h g) n1 (G1 g) (HX.ins g) id (by omega) (HX.le g id)
      have hK : Hid (IxH wr p m h n1 G1 ∧ Only S w wr ∧ Sl U3 wr (.slice (some ⟨g0, o0, none⟩) gn gc) gs) := ⟨HX, hO, hS⟩
      have hSs : Hid (Up S w.heap.size p ∧ Up S w.heap.size m ∧ ∀ g c, h g = some c → Up S w.heap.size c) := ⟨hSp, hSm, hSc⟩
      clear HA hS hO HX hn1 hG1 hSp hSm hSc hI
      go_upto_region 5 with (go_at_call 29; refine hcd.mono ?_; rintro _ w2 ⟨rfl, hx2⟩)
      have hN : IxH w2 p m h (n1 + 1) (drop1 G1 id g) := hK.out.1.turnO g (by rw [drop1_at]; exact hx2.out.1) hx2.out.2 (fun g' hg' => drop1_off G1 id g g' hg') (fun i => by
        have h8 := hK.out.1.le g i
        unfold drop1
        split <;> omega)
      have hP := PtS.stepO hK.out.2.1 hK.out.2.2 (hK.out.1.ins g) (hSs.out.2.2 g) hx2.out.2
      have cp2 := hN.box.cell
      have l2 := hN.out.look g
      obtain ⟨q, hq1, hq2, hq3⟩ := (hN.ins g).len
      have hM : Hid (Many (drop1 G1 id g g) q) := hq2
      have hPh : Hid _ := hP
      have hNh : Hid _ := hN
      by_cases hq0 : q = 0
      · obtain ⟨w3, hs3, ho3, x3⟩ := hN.out.drop g 0
        obtain ⟨es, cl, hm3⟩ := hN.out.obj
        have hN3 := hN.gone g (Many.none (by rw [← hq0]; exact hq2)) ho3 x3
        have hP3 := PtS.step hP.1 hP.2 hm3 hSs.out.2.1 x3
        have hP3h : Hid _ := hP3
        have hN3h : Hid _ := hN3
        clear hP hN hP3 hN3 ho3 x3 hm3 hq2 hx2 l1 cp hcd hPh hNh hM
        subst hq0
        go_wp2
        go_roundw
        case rel =>
          refine ⟨k + 1, hlt, by go_num, ⟨m, _, by rw [hst.out, hn1h.out]; exact hN3h.out.mono (Nat.le_succ _), hSs.out.1, hSs.out.2.1, fun g' c' e => ?_⟩, hP3h.out.1, hP3h.out.2⟩
          unfold upd3 at e
          split at e
          · cases e
          · exact hSs.out.2.2 g' c' e
        case measure => simp [intOf]; omega
      · have hq0i : ¬ ((q : Int) = 0) := by omega
        have hq0b : ((q : Int) == 0) = false := beq_eq_false_iff_ne.2 hq0i
        clear hP hN hq2 hx2 l1 cp hcd
        go_wp2
        go_roundw
        case rel => exact ⟨k + 1, hlt, by go_num, ⟨m, h, by rw [hst.out, hn1h.out]; exact hNh.out.mono (Nat.le_succ _), hSs.out.1, hSs.out.2.1, hSs.out.2.2⟩, hPh.out.1, hPh.out.2⟩
        case measure => simp [intOf]; omega
    · have hlt' : ¬ (k : Int) < (gn : Int) := by omega
      have ht : Hid (gs.take k = gs) := List.take_of_length_le (by have := hgn.out; omega)
      obtain ⟨h1, h2, _⟩ := HA.out
      go_wp2
      go_end0
      refine ⟨rfl, ?_, h2⟩
      rw [ht.out] at h1
      exact h1.mono (by omega)
end Go.Proofs.Ytcaloebojnbeaaa
