/-
  walk's function as a sequence that can be ranged over. (Made by gen/mk12.py out of g/Bws.)
-/
import Derived.Test.YtbgoddcpgogpdaaBfrUToBclU
import Derived.Sort.LoopGhostIn
import Derived.Sort.BigQuietIn
import Derived.Sort.QuietIn
namespace Go.Proofs.Ytbgoddcpgogpdaa.BU
open Go.RowKit Go.Shelf
attribute [local go_sem] Oper.semAt_some
def encB (x : ByteArray × UInt64) : Array Value := #[S6 x.1, U6 x.2]
theorem nd_left {w w' : World} {sb : Nat} (k : LeftG 74 80 sb w w') : ∀ {t : Tr ByteArray UInt64} {p : Value}, Nd w t p → Nd w' t p
  | .nil, _, h => h
  | .nd _ _ _ _, _, ⟨b, pl, pr, e, hb, h1, h2⟩ => ⟨b, pl, pr, e, k.2 b _ _ _ hb (.inr (.inl rfl)), nd_left k h1, nd_left k h2⟩
theorem nd_own {w w' : World} {N : Nat} (o : OwnW 74 N w w') {t : Tr ByteArray UInt64} {p : Value} (h : Nd w t p) : Nd w' t p := NdAt.only o (fun g c fz hg h9 => by
  obtain ⟨_, c', fz', h8⟩ := hg
  rw [h8] at h9
  simp only [Option.some.injEq, Obj.cells.injEq] at h9
  exact absurd h9.2.1 (by decide)) h
theorem own_push {W W' : World} {N : Nat} {u : Value} {l : List Wt} (h : RowE 74 encP W (fun k => N ≤ k) u l) (o : Only (own u) W W') : OwnW 74 N W W' :=
  o.mono (fun g _ hg => ⟨h.2 g hg, by obtain ⟨c, hc⟩ := own_type h g hg; exact ⟨c, _, hc⟩⟩)
theorem yes_no {e : Ending} {A B : Prop} (h : (e = .returned (.bool true) ∧ A) ∨ (e = .returned (.bool false) ∧ B)) : ∃ bb, e = .returned (.bool bb) ∧ Hid ((bb = true ∧ A) ∨ (bb = false ∧ B)) := by
  rcases h with ⟨rfl, h⟩ | ⟨rfl, h⟩
  · exact ⟨true, rfl, .inl ⟨rfl, h⟩⟩
  · exact ⟨false, rfl, .inr ⟨rfl, h⟩⟩
section
set_option maxRecDepth 100000
set_option maxHeartbeats 4000000
theorem seq_in (n : Nat) (hn : 1 ≤ n) (l : Nat) (N : Nat) (J Jx : List (ByteArray × UInt64) → World → Prop) (xs : List (ByteArray × UInt64)) (fb sb : Nat) (s : Bool) (st : List Wt) (W : World) (hN : N ≤ W.heap.size) (hwk : WkAt W fb sb s st) (hxs : xs = Tr.rest s (trs st)) (hlen : xs.length ≤ 1000000000000)
    (hJ : ∀ q A A', J q A → OwnW 74 N A A' → J q A')
    (hY : ∀ pre x W1, pre ++ [x] <+: xs → J pre W1 → YieldAt Fence.wide (n - 1) Try.prog l (encB x) W1 fun e W' => (e = .returned (.bool true) ∧ J (pre ++ [x]) W' ∧ LeftG 74 80 sb W1 W') ∨ (e = .returned (.bool false) ∧ Jx (pre ++ [x]) W'))
    (h0 : J [] W) :
    CallsIn Fence.wide n Try.prog 65 #[.func (.yield l) #[] #[], .pointer (some ⟨fb, 0, none⟩), .pointer (some ⟨sb, 0, none⟩)] W fun e W' => (∃ v, e = .returned v) ∧ (J xs W' ∨ (∃ pre, pre <+: xs ∧ Jx pre W')) := by
  obtain ⟨v, hfb, hvr, hsb, hst⟩ := hwk
  have hv : Sl encP W v st := hvr.sl
  have hz : ∀ a n c, v = .slice a n c → a = none → c = 0 := by
    rintro a n c rfl rfl
    rcases hvr.1.2 with ⟨e, _⟩ | ⟨g, cap, cur, e, _⟩
    · simp only [Value.slice.injEq] at e; exact e.2.2
    · simp at e
  have hstl : st.length ≤ xs.length := by rw [hxs]; exact rest_len s st hst.ne
  have hcl := clone_any W v st hv hz (by omega)
  obtain ⟨a, vn, vc, rfl, _⟩ := hv.shape
  have cf := hfb.cell
  have hsbh : Hid (Boxed W sb 3 (.int .i64 (sd s))) := hsb
  have hsth : Hid (Stk W st) := hst
  have hxh : Hid (xs = Tr.rest s (trs st)) := hxs
  have hlenh : Hid (xs.length ≤ 1000000000000) := hlen
  have hJh : Hid (∀ q A A', J q A → OwnW 74 N A A' → J q A') := hJ
  have hNh : Hid (N ≤ W.heap.size) := hN
  clear hfb hv hvr hz hsb hst hxs hstl hlen hJ hN
  refine callsIn_of_wp Try.func65 rfl trivial ?_ rfl
  simp only [Try.ntmps65, List.size_toArray, List.length_cons, List.length_nil, Nat.reduceAdd, Nat.reduceSub, Array.replicate_succ, Array.replicate_zero, List.push_toArray, List.append_toArray, List.nil_append, List.cons_append]
  gi_wp2_with fail
  refine ⟨trivial, ?_⟩
  gi_at_call 66
  refine (callsIn_wide.2 hcl).mono ?_
  rintro _ w1 ⟨u, rfl, r1, x1⟩
  have hw1 : IntKind.i64.wrap 1 = 1 := by decide
  have hw0 : IntKind.i64.wrap 0 = 0 := by decide
  gi_wp2_with fail
  gi_loopg [4] (xs.length + 1) (fun n x4 wr => ∃ pre st, Hid (RowE 74 encP wr (fun k => N ≤ k) x4 st ∧ Boxed wr sb 3 (.int .i64 (sd s)) ∧ Stk wr st ∧ pre ++ Tr.rest s (trs st) = xs ∧ xs.length - pre.length < n) ∧ Hid (J pre wr) ∧ Hid (W.heap.size ≤ wr.heap.size))
  case atStart => exact ⟨[], st, ⟨r1.wide (fun k hk => Nat.le_trans hNh.out hk), ext_block x1 hsbh.out, hsth.out.ext x1, by rw [hxh.out]; rfl, by simp⟩, hJh.out _ _ _ h0 (OwnW.ext x1), x1.size⟩
  case round =>
    obtain ⟨pre, st, hm, hj, hWw⟩ := hrel
    obtain ⟨m1, m2, m3, m4, m5⟩ := hm.out
    obtain ⟨va, vc, e0⟩ := row_slice m1
    obtain ⟨vn, hvn⟩ : ∃ n, Hid (st.length = n) := ⟨_, rfl⟩
    rw [hvn.out] at e0
    subst e0
    rcases List.eq_nil_or_concat st with rfl | ⟨st', ⟨b, t⟩, e1⟩
    · have hvn0 : vn = 0 := by have := hvn.out; simpa using this.symm
      subst hvn0
      have hpx : Hid (pre = xs) := by show _ = _; simpa [Tr.rest] using m4
      clear hm m1 m2 m3 m4 m5 hY
      gi_wp2
      go_end0
      exact ⟨⟨_, rfl⟩, .inl (hpx.out ▸ hj.out)⟩
    · rw [List.concat_eq_append] at e1
      subst e1
      cases t with
      | nil => exact absurd rfl (m3.ne (b, .nil) (by simp))
      | nd tl tk tv tr =>
        have hnd : Hid (Nd wr (.nd tl tk tv tr) (.pointer (some ⟨b, 0, none⟩))) := m3 (b, .nd tl tk tv tr) (by simp)
        obtain ⟨b', pl, pr, e, hb, hl, hr⟩ := m3 (b, .nd tl tk tv tr) (by simp)
        cases e
        obtain ⟨ql, rfl⟩ := hl.shape
        obtain ⟨qr, rfl⟩ := hr.shape
        obtain ⟨d0, d1, _, d3, d4⟩ := node_cells hb
        simp only [S6, U6] at d0 d1
        obtain ⟨g, rfl⟩ : ∃ g, va = some ⟨g, 0, none⟩ := by
          rcases m1.1.2 with ⟨e, h9⟩ | ⟨g, cap, cur, e, _⟩
          · simp at h9
          · simp only [Value.slice.injEq] at e; exact ⟨g, e.1⟩
        have hcap := m1.sl.len
        obtain ⟨g', o', e', ce⟩ := m1.sl.at st'.length (by simp)
        cases e'
        have hx9 : (st' ++ [(b, Tr.nd tl tk tv tr)])[st'.length]'(by simp) = (b, Tr.nd tl tk tv tr) := by simp
        rw [hx9] at ce
        simp only [encP, Nat.zero_add] at ce
        clear hx9
        have hvn1 : vn = st'.length + 1 := by have := hvn.out; simpa using this.symm
        obtain ⟨h, hh⟩ : ∃ h, Hid (st'.length = h) := ⟨_, rfl⟩
        rw [hh.out] at hvn1 ce
        subst hvn1
        have hcap1 : h + 1 ≤ vc := hcap.2.1
        have hcap2 : vc ≤ 9223372036854775807 := by have h9 := hcap.2.2; unfold maxLen at h9; omega
        have hmh : Hid (RowE 74 encP wr (fun k => N ≤ k) (.slice (some ⟨g, 0, none⟩) (h + 1) vc) (st' ++ [(b, .nd tl tk tv tr)]) ∧ Boxed wr sb 3 (.int .i64 (sd s)) ∧ Stk wr (st' ++ [(b, .nd tl tk tv tr)])) := ⟨m1, m2, m3⟩
        have hpre : Hid (pre ++ (tk, tv) :: Tr.dir s (Tr.kid (!s) (.nd tl tk tv tr)) ++ Tr.rest s (trs st') = xs ∧ xs.length - pre.length < gk) := by
          refine ⟨?_, m5⟩
          rw [← m4]
          simp only [trs, List.map_append, List.map_cons, List.map_nil, Tr.rest_snoc, Tr.emit, List.cons_append, List.append_assoc]
        have hpx : pre ++ [(tk, tv)] <+: xs := ⟨Tr.dir s (Tr.kid (!s) (.nd tl tk tv tr)) ++ Tr.rest s (trs st'), by rw [← hpre.out.1]; simp⟩
        obtain ⟨fn, tmps, assign, body, hy, hR⟩ := hY pre (tk, tv) wr.drew hpx (hJh.out _ _ _ hj.out (OwnW.ext (Ext.refl wr).drew))
        simp only [encB, S6, U6] at hy
        have hYh : Hid (∀ pre x W1, pre ++ [x] <+: xs → J pre W1 → YieldAt Fence.wide (n - 1) Try.prog l (encB x) W1 fun e W' => (e = .returned (.bool true) ∧ J (pre ++ [x]) W' ∧ LeftG 74 80 sb W1 W') ∨ (e = .returned (.bool false) ∧ Jx (pre ++ [x]) W')) := hY
        have mixed := (by kernel_rfl : Try.prog.follows Departure.mixedOrders = true)
        clear hm m1 m2 m3 m4 m5 hY hb hl hr hcap hpx hcl cf
        gi_wp2_with fail
        gi_region_with_o (refine hR.mono ?_; rintro e W3 hE; obtain ⟨bb, rfl, hE2⟩ := yes_no hE)
        all_goals
          clear hR hy hYh
          rcases hE2.out with ⟨rfl, hJ3, hk3⟩ | ⟨rfl, hJx3⟩
          · have xd : Ext wr wr.drew := (Ext.refl wr).drew
            have r3 : Hid (RowE 74 encP W3 (fun k => N ≤ k) (.slice (some ⟨g, 0, none⟩) h vc) st') := RowE.short ((hmh.out.1.ext xd).left hk3) (by rw [hh.out]) hh.out.symm (by simp)
            have s3 : Hid (Boxed W3 sb 3 (.int .i64 (sd s))) := hk3.2 sb _ _ _ (ext_block xd hmh.out.2.1) (.inr (.inr rfl))
            have t3 : Hid (Stk W3 (st' ++ [(b, .nd tl tk tv tr)])) := fun y hy => nd_left hk3 ((hmh.out.2.2 y hy).ext xd)
            obtain ⟨b', pl, pr, e, hb3, hl3, hr3⟩ := t3.out (b, .nd tl tk tv tr) (by simp)
            cases e
            obtain ⟨ql3, rfl⟩ := hl3.shape
            obtain ⟨qr3, rfl⟩ := hr3.shape
            obtain ⟨_, _, _, f3, f4⟩ := node_cells hb3
            have hlh : Hid (Nd W3 tl (.pointer ql3)) := hl3
            have hrh : Hid (Nd W3 tr (.pointer qr3)) := hr3
            have hJ3h : Hid (J (pre ++ [(tk, tv)]) W3) := hJ3
            have cs := s3.out.cell
            have hsz3 : Hid (wr.heap.size ≤ W3.drew.heap.size) := hk3.1
            clear hb3 hl3 hr3 hJ3 hk3 hE2 d0 d1 d3 d4 ce hj xd
            cases s
            · simp only [sd, Bool.false_eq_true, if_false] at cs
              gi_wp2_with fail
              gi_region_with_o (fail)
              dsimp only [Act.put, List.getElem_toArray, List.getElem_cons_zero, List.getElem_cons_succ]
              simp only [List.setIfInBounds_toArray, List.set_cons_zero, List.set_cons_succ]
              gi_wp2_with fail
              gi_loopg [4, 7] (tr.cnt + 1) (fun n x4 x7 wi => ∃ us u q, x7 = .pointer q ∧ Hid (RowE 74 encP wi (fun k => N ≤ k) x4 us ∧ Boxed wi sb 3 (.int .i64 (sd false)) ∧ Stk wi us ∧ Nd wi u (.pointer q) ∧ u.cnt < n ∧ trs us ++ Tr.chain false u = trs st' ++ Tr.chain false tr) ∧ Hid (J (pre ++ [(tk, tv)]) wi) ∧ Hid (W.heap.size ≤ wi.heap.size))
              case atStart =>
                have z : Ext W3 W3.drew := (Ext.refl W3).drew
                exact ⟨st', tr, qr3, rfl, ⟨r3.out.ext z, ext_block z s3.out, fun y hy => (t3.out y (by simp [hy])).ext z, hrh.out.ext z, by omega, rfl⟩, hJh.out _ _ _ hJ3h.out (OwnW.ext z), Nat.le_trans hWw.out hsz3.out⟩
              case round =>
                obtain ⟨us, u, q, rfl, hmi, hji, hWw⟩ := hrel
                obtain ⟨m1, m2, m3, m4, m5, m6⟩ := hmi.out
                obtain ⟨va, vc, e0⟩ := row_slice m1
                obtain ⟨vn, hvn⟩ : ∃ n, Hid (us.length = n) := ⟨_, rfl⟩
                rw [hvn.out] at e0
                subst e0
                cases u with
                | nil =>
                  obtain rfl : q = none := by cases m4; rfl
                  have hus : Hid (trs us = trs st' ++ Tr.chain false tr) := by show _ = _; simpa [Tr.chain] using m6
                  clear m1 m2 m3 m4 m5 m6
                  gi_wp2
                  gi_roundg (xs.length - pre.length)
                  case measure => exact hpre.out.2
                  case rel =>
                    obtain ⟨m1, m2, m3, _⟩ := hmi.out
                    have hxl : pre.length < xs.length := by rw [← hpre.out.1]; simp
                    refine ⟨pre ++ [(tk, tv)], us, ⟨m1, m2, m3, ?_, by simp; omega⟩, hji.out, hWw.out⟩
                    rw [hus.out, Tr.rest_chain false (tr.cnt) _ _ (Nat.le_refl _), ← hpre.out.1]
                    simp [Tr.kid]
                | nd ul uk uv ur =>
                  have hcl9 : Hid (us.length + 1 ≤ 1000000000000) := by
                    have h1 := rest_len false us m3.ne
                    have h2 := congrArg (Tr.rest false) m6
                    have h3 := Tr.rest_chain false (tr.cnt) _ (trs st') (Nat.le_refl _)
                    have h4 := Tr.rest_chain false _ (Tr.nd ul uk uv ur) (trs us) (Nat.le_refl _)
                    rw [h3, h4] at h2
                    have h5 := congrArg List.length h2
                    have h6 : (Tr.dir false (Tr.nd ul uk uv ur)).length = ul.cnt + ur.cnt + 1 := by simp [Tr.dir, Tr.row_len, Tr.cnt]
                    have h7 := congrArg List.length hpre.out.1
                    have h8 := hlenh.out
                    simp only [List.length_append, List.length_cons, Tr.kid, Bool.not_false, if_true] at h5 h7
                    show _ ≤ _
                    omega
                  have hndh : Hid (Nd wr (.nd ul uk uv ur) (.pointer q)) := m4
                  obtain ⟨bu, pl, pr, e, hb, hl, hr⟩ := m4
                  cases e
                  obtain ⟨ql9, rfl⟩ := hl.shape
                  obtain ⟨qr9, rfl⟩ := hr.shape
                  obtain ⟨v', W4, hrun, ⟨a9, n9, c9, rfl⟩, hpost⟩ := row_push wr _ _ us m1 93 bu (.nd ul uk uv ur) (by have := hcl9.out; omega)
                  obtain ⟨p1, p2⟩ := hpost.out
                  have o4 : OwnW 74 N wr W4 := own_push m1 p2
                  have p1h : Hid (RowE 74 encP W4 (fun k => N ≤ k) (.slice a9 n9 c9) (us ++ [(bu, .nd ul uk uv ur)])) := p1.wide (by
                    rintro k (hk | hk)
                    · exact hk
                    · exact Nat.le_trans (Nat.le_trans hNh.out hWw.out) hk)
                  have s4 : Hid (Boxed W4 sb 3 (.int .i64 (sd false))) := o4.block m2 (.inl (by decide))
                  have t4 : Hid (Stk W4 (us ++ [(bu, .nd ul uk uv ur)])) := by
                    intro y hy
                    rcases List.mem_append.1 hy with hy | hy
                    · exact nd_own o4 (m3 y hy)
                    · simp only [List.mem_singleton] at hy
                      subst hy
                      exact nd_own o4 hndh.out
                  have hl4 : Hid (Nd W4 ul (.pointer ql9)) := nd_own o4 hl
                  have hr4 : Hid (Nd W4 ur (.pointer qr9)) := nd_own o4 hr
                  obtain ⟨_, _, _, g3, g4⟩ := node_cells (o4.block hb (.inl (by decide)))
                  have hj4 : Hid (J (pre ++ [(tk, tv)]) W4) := hJh.out _ _ _ hji.out o4
                  have hch4 : Hid (ul.cnt + ur.cnt + 1 < gk ∧ trs (us ++ [(bu, .nd ul uk uv ur)]) ++ Tr.chain false ul = trs st' ++ Tr.chain false tr) := ⟨m5, by rw [← m6, Tr.chain_nd]; simp [Tr.kid]⟩
                  have hsz4 : Hid (W.heap.size ≤ W4.drew.heap.size) := Nat.le_trans hWw.out p2.size
                  have hrunh : Hid _ := hrun
                  have cs4 := s4.out.cell
                  simp only [sd, Bool.false_eq_true, if_false] at cs4
                  clear hrun hpost p1 p2 o4 m1 m2 m3 m5 m6 hb hl hr hmi hji hndh
                  gi_wp2_with (gi_at_builtin; refine Hid.out ?_)
                  refine wpListIn_app rfl _ _ _ _ rfl _ _ rfl rfl _ _ hrunh.out ?_
                  gi_wp2_with fail
                  gi_region_with_o (fail)
                  dsimp only [Act.put, List.getElem_toArray, List.getElem_cons_zero, List.getElem_cons_succ]
                  simp only [List.setIfInBounds_toArray, List.set_cons_zero, List.set_cons_succ]
                  gi_wp2
                  gi_roundg (ul.cnt + 1)
                  case measure => have := hch4.out.1; omega
                  case rel =>
                    have z : Ext W4 W4.drew := (Ext.refl W4).drew
                    exact ⟨us ++ [(bu, .nd ul uk uv ur)], ul, ql9, rfl, ⟨p1h.out.ext z, ext_block z s4.out, t4.out.ext z, hl4.out.ext z, by omega, hch4.out.2⟩, hJh.out _ _ _ hj4.out (OwnW.ext z), hsz4.out⟩
            · simp only [sd, if_true] at cs
              gi_wp2_with fail
              gi_region_with_o (fail)
              dsimp only [Act.put, List.getElem_toArray, List.getElem_cons_zero, List.getElem_cons_succ]
              simp only [List.setIfInBounds_toArray, List.set_cons_zero, List.set_cons_succ]
              gi_wp2_with fail
              gi_loopg [4, 7] (tl.cnt + 1) (fun n x4 x7 wi => ∃ us u q, x7 = .pointer q ∧ Hid (RowE 74 encP wi (fun k => N ≤ k) x4 us ∧ Boxed wi sb 3 (.int .i64 (sd true)) ∧ Stk wi us ∧ Nd wi u (.pointer q) ∧ u.cnt < n ∧ trs us ++ Tr.chain true u = trs st' ++ Tr.chain true tl) ∧ Hid (J (pre ++ [(tk, tv)]) wi) ∧ Hid (W.heap.size ≤ wi.heap.size))
              case atStart =>
                have z : Ext W3 W3.drew := (Ext.refl W3).drew
                exact ⟨st', tl, ql3, rfl, ⟨r3.out.ext z, ext_block z s3.out, fun y hy => (t3.out y (by simp [hy])).ext z, hlh.out.ext z, by omega, rfl⟩, hJh.out _ _ _ hJ3h.out (OwnW.ext z), Nat.le_trans hWw.out hsz3.out⟩
              case round =>
                obtain ⟨us, u, q, rfl, hmi, hji, hWw⟩ := hrel
                obtain ⟨m1, m2, m3, m4, m5, m6⟩ := hmi.out
                obtain ⟨va, vc, e0⟩ := row_slice m1
                obtain ⟨vn, hvn⟩ : ∃ n, Hid (us.length = n) := ⟨_, rfl⟩
                rw [hvn.out] at e0
                subst e0
                cases u with
                | nil =>
                  obtain rfl : q = none := by cases m4; rfl
                  have hus : Hid (trs us = trs st' ++ Tr.chain true tl) := by show _ = _; simpa [Tr.chain] using m6
                  clear m1 m2 m3 m4 m5 m6
                  gi_wp2
                  gi_roundg (xs.length - pre.length)
                  case measure => exact hpre.out.2
                  case rel =>
                    obtain ⟨m1, m2, m3, _⟩ := hmi.out
                    have hxl : pre.length < xs.length := by rw [← hpre.out.1]; simp
                    refine ⟨pre ++ [(tk, tv)], us, ⟨m1, m2, m3, ?_, by simp; omega⟩, hji.out, hWw.out⟩
                    rw [hus.out, Tr.rest_chain true (tl.cnt) _ _ (Nat.le_refl _), ← hpre.out.1]
                    simp [Tr.kid]
                | nd ul uk uv ur =>
                  have hcl9 : Hid (us.length + 1 ≤ 1000000000000) := by
                    have h1 := rest_len true us m3.ne
                    have h2 := congrArg (Tr.rest true) m6
                    have h3 := Tr.rest_chain true (tl.cnt) _ (trs st') (Nat.le_refl _)
                    have h4 := Tr.rest_chain true _ (Tr.nd ul uk uv ur) (trs us) (Nat.le_refl _)
                    rw [h3, h4] at h2
                    have h5 := congrArg List.length h2
                    have h6 : (Tr.dir true (Tr.nd ul uk uv ur)).length = ul.cnt + ur.cnt + 1 := by simp [Tr.dir, Tr.row_len, Tr.cnt]
                    have h7 := congrArg List.length hpre.out.1
                    have h8 := hlenh.out
                    simp only [List.length_append, List.length_cons, Tr.kid, Bool.not_true, Bool.false_eq_true, if_false] at h5 h7
                    show _ ≤ _
                    omega
                  have hndh : Hid (Nd wr (.nd ul uk uv ur) (.pointer q)) := m4
                  obtain ⟨bu, pl, pr, e, hb, hl, hr⟩ := m4
                  cases e
                  obtain ⟨ql9, rfl⟩ := hl.shape
                  obtain ⟨qr9, rfl⟩ := hr.shape
                  obtain ⟨v', W4, hrun, ⟨a9, n9, c9, rfl⟩, hpost⟩ := row_push wr _ _ us m1 93 bu (.nd ul uk uv ur) (by have := hcl9.out; omega)
                  obtain ⟨p1, p2⟩ := hpost.out
                  have o4 : OwnW 74 N wr W4 := own_push m1 p2
                  have p1h : Hid (RowE 74 encP W4 (fun k => N ≤ k) (.slice a9 n9 c9) (us ++ [(bu, .nd ul uk uv ur)])) := p1.wide (by
                    rintro k (hk | hk)
                    · exact hk
                    · exact Nat.le_trans (Nat.le_trans hNh.out hWw.out) hk)
                  have s4 : Hid (Boxed W4 sb 3 (.int .i64 (sd true))) := o4.block m2 (.inl (by decide))
                  have t4 : Hid (Stk W4 (us ++ [(bu, .nd ul uk uv ur)])) := by
                    intro y hy
                    rcases List.mem_append.1 hy with hy | hy
                    · exact nd_own o4 (m3 y hy)
                    · simp only [List.mem_singleton] at hy
                      subst hy
                      exact nd_own o4 hndh.out
                  have hl4 : Hid (Nd W4 ul (.pointer ql9)) := nd_own o4 hl
                  have hr4 : Hid (Nd W4 ur (.pointer qr9)) := nd_own o4 hr
                  obtain ⟨_, _, _, g3, g4⟩ := node_cells (o4.block hb (.inl (by decide)))
                  have hj4 : Hid (J (pre ++ [(tk, tv)]) W4) := hJh.out _ _ _ hji.out o4
                  have hch4 : Hid (ul.cnt + ur.cnt + 1 < gk ∧ trs (us ++ [(bu, .nd ul uk uv ur)]) ++ Tr.chain true ur = trs st' ++ Tr.chain true tl) := ⟨m5, by rw [← m6, Tr.chain_nd]; simp [Tr.kid]⟩
                  have hsz4 : Hid (W.heap.size ≤ W4.drew.heap.size) := Nat.le_trans hWw.out p2.size
                  have hrunh : Hid _ := hrun
                  have cs4 := s4.out.cell
                  simp only [sd, if_true] at cs4
                  clear hrun hpost p1 p2 o4 m1 m2 m3 m5 m6 hb hl hr hmi hji hndh
                  gi_wp2_with (gi_at_builtin; refine Hid.out ?_)
                  refine wpListIn_app rfl _ _ _ _ rfl _ _ rfl rfl _ _ hrunh.out ?_
                  gi_wp2_with fail
                  gi_region_with_o (fail)
                  dsimp only [Act.put, List.getElem_toArray, List.getElem_cons_zero, List.getElem_cons_succ]
                  simp only [List.setIfInBounds_toArray, List.set_cons_zero, List.set_cons_succ]
                  gi_wp2
                  gi_roundg (ur.cnt + 1)
                  case measure => have := hch4.out.1; omega
                  case rel =>
                    have z : Ext W4 W4.drew := (Ext.refl W4).drew
                    exact ⟨us ++ [(bu, .nd ul uk uv ur)], ur, qr9, rfl, ⟨p1h.out.ext z, ext_block z s4.out, t4.out.ext z, hr4.out.ext z, by omega, hch4.out.2⟩, hJh.out _ _ _ hj4.out (OwnW.ext z), hsz4.out⟩
          · gi_wp2
            refine bodyPost_ret (results_none rfl _ _ _) rfl ?_
            exact ⟨⟨_, rfl⟩, .inr ⟨_, ⟨Tr.dir s (Tr.kid (!s) (.nd tl tk tv tr)) ++ Tr.rest s (trs st'), by rw [← hpre.out.1]; simp⟩, hJx3⟩⟩
theorem seq_any (n : Nat) (hn : 1 ≤ n) (w : World) (fb sb : Nat) (s : Bool) (st : List Wt) (hwk : WkAt w fb sb s st) (hlen : (Tr.rest s (trs st)).length ≤ 1000000000000) :
    RelSeq n Try.prog 65 #[.pointer (some ⟨fb, 0, none⟩), .pointer (some ⟨sb, 0, none⟩)] encB (OwnW 74 w.heap.size) (LeftG 74 80 sb) (Tr.rest s (trs st)) w := by
  intro l J Jx W hW hJ _ hY h0
  exact seq_in n hn l w.heap.size J Jx _ fb sb s st W hW.size (hwk.ext hW) rfl hlen hJ hY h0
end
end Go.Proofs.Ytbgoddcpgogpdaa.BU
