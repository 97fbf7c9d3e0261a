/-
  PacketJust: Decode takes just the bytes that are one item of the form.
-/
import Derived.Test.YtmcodhdphdckkaaGreatDoorQK
import Derived.Test.YtmcodhdphdckkaaGreatDoorCards
import Derived.Test.YtmcodhdphdckkaaGreatDoorTie
import Derived.Test.YtmcodhdphdckkaaGreatDoorQC
import Derived.SizedLaws
namespace Go.Proofs.YtmcodhdphdckkaaGreatDoor
open Go.RowKit Go.Shelf

def one_is (f : Tl → Bool) (ts : List Tl) : Bool := match ts with | [t] => f t | _ => false
theorem one_not (f : Tl → Bool) {ts : List Tl} (h : ts.length ≠ 1) : one_is f ts = false := by
  match ts, h with
  | [], _ => rfl
  | [_], h => exact absurd rfl h
  | _ :: _ :: _, _ => rfl
theorem nz_decodeJ (l : List UInt8) : NZ (decodeR l) := nz_bind (nz_takeT _ _ _) fun _ => nz_ite (nz_err (by decide)) (nz_ok _)
/-- what Decode's answer says of the bytes -/
structure DJ (l : List UInt8) (qc qn : Nat) : Prop where
  ok : qc = 0 → qn = 0
  le : qn ≤ l.length
  just : l.length ≤ 1048576 → jJust l = decide (qc = 0)
  long : 1048576 < l.length → qc = 3 ∧ qn = 0
theorem decode_just {w w' : World} {l : List UInt8} {x : Ending} (h : DecP w w' (decodeR l) x) : ∃ (f : F9) (qc qn : Nat), x = .returned (.tuple #[.agg f.arr, .int .i64 qc, .int .i64 qn]) ∧ DJ l qc qn := by
  have hnz := nz_decodeJ l
  have hin := in_decode l
  have hj : l.length ≤ 1048576 → Ag (decodeR l) (jJust l) fun _ => True := fun h => justAg h
  have hlong : 1048576 < l.length → decodeR l = .error (3, 0) := fun h => by
    unfold decodeR takeT
    rw [if_pos (by omega)]
    rfl
  cases hd : decodeR l with
  | error q =>
    rw [hd] at h hnz hin hj hlong
    obtain ⟨qc, qn⟩ := q
    have h1 := hnz _ rfl
    have h2 := hin _ rfl
    simp only at h1 h2
    obtain ⟨m, rfl⟩ := Int.eq_ofNat_of_zero_le h2.1
    refine ⟨F9.zero, qc, m, h, ⟨fun h => absurd h h1, by omega, fun hl => ?_, fun hl => ?_⟩⟩
    · rw [show jJust l = false from hj hl]; exact (decide_eq_false h1).symm
    · have := hlong hl
      simp only [Except.error.injEq, Prod.mk.injEq] at this
      exact ⟨this.1, by omega⟩
  | ok r =>
    rw [hd] at h hj hlong
    obtain ⟨f, hx, -⟩ := h
    refine ⟨f, 0, 0, hx, ⟨fun _ => rfl, Nat.zero_le _, fun hl => (hj hl).1, fun hl => ?_⟩⟩
    have := hlong hl
    cases this

set_option maxRecDepth 100000 in
set_option maxHeartbeats 8000000 in
theorem PacketJust_any (w : World) (v : Value) (l : List UInt8) (hs : Sl w v l) (hl : l.length < 36028797018963968) :
    Calls Tryz.prog 3 #[v] w fun e w' => e = .returned (.bool true) ∧ Ext w w' := by
  obtain ⟨sa, sc, rfl, hs1, -, -⟩ := id hs
  have hW := works_any w
  have hD := fun W (y : Ext w W) => Decode_any W _ l (hs.ext y) hl
  obtain ⟨n, hn⟩ : ∃ n, l.length = n := ⟨_, rfl⟩
  rw [hn] at hl hs1 hD
  have hnh : Hid (l.length = n) := hn
  rw [hn] at hs ⊢
  clear hn
  go_enter Tryz.func3, Tryz.ntmps3
  go_wp2_with fail
  go_at_call 8
  refine hW.mono ?_
  rintro _ w1 ⟨rfl, x1⟩
  have hD1 := hD _ x1
  clear hW hD
  try dsimp only
  go_wp2_with fail
  go_at_call 9
  refine hD1.mono ?_
  rintro _ w2 ⟨x2, hd⟩
  have x12 := x1.trans x2
  clear hD1
  obtain ⟨ff, qc, qn, rfl, hdj⟩ := decode_just hd
  clear hd x1 x2
  obtain ⟨kG, kaG, knG, kcG, dG, vG, sG, maG, mnG, mcG, eG, rG, bG⟩ := ff
  simp only [F9.arr]
  have x3 := x12.trans ((Ext.refl w2).alloc (.cells #[.int .i8 kG, .slice kaG knG kcG, .string dG, .string vG, .string sG, .slice maG mnG mcG, .string eG, .string rG, .bool bG] 28))
  try dsimp only
  go_upto_region 4 with fail
  generalize w2.alloc _ = w3 at x3 ⊢
  clear x12
  have hle := hdj.le
  rw [hnh.out] at hle
  by_cases hbig : 1048576 < n
  · obtain ⟨h3, h0⟩ := hdj.long (by rw [hnh.out]; exact hbig)
    subst h3 h0
    clear hdj
    have b1 : decide ((1048576 : Int) < (n : Int)) = true := decide_eq_true (by omega)
    go_wp2
    go_ret
    exact ⟨rfl, x3⟩
  have b1 : decide ((1048576 : Int) < (n : Int)) = false := decide_eq_false (by omega)
  have hju : Hid (jJust l = decide (qc = 0)) := hdj.just (by rw [hnh.out]; omega)
  have hok : Hid (qc = 0 → qn = 0) := hdj.ok
  clear hdj
  have hWh := Whole_any w3 (.slice sa n sc) l 0 n (hs.ext x3) (by rw [hnh.out]; omega)
  have hTT : allT l = ⟨0, false, 0, 0, n⟩ := by unfold allT; rw [hnh.out]
  have hJJ : Hid (jJust l = (decide ((sideL l 0 n).2 = 0) && match (sideL l 0 n).1.map (·.2) with | [t] => (jIs l 64 t 0).isSome | _ => false)) := by
    show _ = _
    unfold jJust
    rw [hTT]
    rfl
  have hWL : Hid (wholeL l 0 n = if (sideL l 0 n).2 = 0 then (sideL l 0 n).1.map (·.2) else []) := rfl
  have hIts : Its l n 0 ((sideL l 0 n).1.map (·.2)) (decide ((sideL l 0 n).2 = 0)) := side_its (l := l) (t := ⟨0, false, 0, 0, n⟩) (Nat.zero_le _) (by rw [hnh.out]; exact Nat.le_refl _)
  generalize (sideL l 0 n).2 = sb at hWh hJJ hWL hIts
  generalize (sideL l 0 n).1.map (·.2) = ts at hJJ hWL hIts
  generalize wholeL l 0 n = wl at hWh hWL
  clear hTT
  go_wp2_with fail
  go_at_call 10
  refine hWh.mono ?_
  rintro _ w4 ⟨u, rfl, hrow, x4⟩
  have x5 := x3.trans x4
  have hs4 := hs.ext x5
  clear hWh x3 x4
  try dsimp only
  have x6 := (Ext.refl w4).alloc (.cells #[.slice sa n sc, .int .i64 0] 37)
  have j6 : JfAt (w4.alloc (.cells #[.slice sa n sc, .int .i64 0] 37)) w4.heap.size (.slice sa n sc) ((0 : Nat) : Int) := heap_alloc_new _ _
  go_upto_region 8 with fail
  generalize w4.alloc _ = w6 at x6 j6 ⊢
  have xa := x5.trans x6
  have hs6 := hs4.ext x6
  have g1 : decide ((0 : Int) ≤ (qn : Int)) = true := decide_eq_true (by omega)
  have g2 : decide ((qn : Int) ≤ (n : Int)) = true := decide_eq_true (by omega)
  have g3 : decide (qn ≤ n) = true := decide_eq_true hle
  by_cases hsb : sb = 0
  · have hW2 : wl = ts := by rw [hWL.out, if_pos hsb]
    subst hW2
    have m0 : ((sb : Int) == 0) = true := by simp; exact hsb
    have hJ2 : Hid (jJust l = one_is (fun t => (jIs l 64 t 0).isSome) wl) := by show _ = _; rw [hJJ.out, decide_eq_true hsb, Bool.true_and]; rfl
    rw [decide_eq_true hsb] at hIts
    clear hJJ hWL hsb
    by_cases h1 : wl.length = 1
    · obtain ⟨t, rfl⟩ : ∃ t, wl = [t] := List.length_eq_one_iff.mp h1
      obtain ⟨g, cap, rfl, hcap, hrw, -⟩ := hrow.trow (by simp)
      have hft := hIts.fine (by rw [hnh.out]; exact Nat.le_refl _) (by rw [hnh.out]; omega) t (by simp)
      have hl1 : 0 < l.length := by have := hIts.len; rw [hnh.out]; simp at this; omega
      have hoff : Off (.slice sa n sc) w4.heap.size := by
        intro a n' c e hX
        obtain ⟨a2, c2, e2, -, -, hcell⟩ := hs4
        obtain ⟨gg, og, ea, hc⟩ := hcell 0 hl1
        have hb := World.block_lt_of_cell? _ _ hc
        simp only [Value.slice.injEq] at e e2
        rw [e2.1, ea] at e
        simp only [Option.some.injEq] at e
        rw [← e.1] at hX
        simp only at hX hb
        omega
      have hI := is_all l w4.heap.size (.slice sa n sc) hoff (by rw [hnh.out]; omega) 64 (Nat.le_refl _) w6 t 0 ⟨j6, hs6⟩ (by omega) hft.1 (by have := hft.2; rw [hnh.out]; exact this)
      have hI' : Calls Tryz.prog 11 #[.pointer (some ⟨w4.heap.size, 0, none⟩), jV t, .int .i64 0] w6 (IsPost w6 w4.heap.size (.slice sa n sc) l (jIs l 64 t 0)) := hI
      have hJ3 : Hid (jJust l = (jIs l 64 t 0).isSome) := hJ2
      obtain ⟨d0, d1, d2, d3, d4⟩ := (hrw.ext x6).c 0 (by simp)
      simp only [Nat.zero_mul, Nat.zero_add, List.getElem_cons_zero] at d0 d1 d2 d3 d4
      generalize jIs l 64 t 0 = oj at hI' hJ3
      clear hI hJ2 hoff hft hIts hrow hrw h1 hcap hs6 hs4
      obtain ⟨cls, cons, num, fro, til⟩ := t
      simp only [jV, List.length_cons, List.length_nil] at d0 d1 d2 d3 d4 hI' ⊢
      go_wp2_with fail
      go_at_call 11
      refine hI'.mono ?_
      rintro _ w7 ⟨rfl, o7, m7, -, -⟩
      have x7 := xa.then o7 (fun g hg => by rw [hg]; exact x5.size)
      clear hI' d0 d1 d2 d3 d4 o7
      try dsimp only
      cases oj with
      | none =>
        have hq : ¬ qc = 0 := by have := hju.out; rw [hJ3.out] at this; simpa using this.symm
        have m1 : ((qc : Int) == 0) = false := by simp; exact hq
        have m2 : ((qc : Int) != 0) = true := by simp; exact hq
        simp only [Option.isSome_none]
        clear hq hju hJ3 hok
        go_wp2
        go_ret
        exact ⟨rfl, x7⟩
      | some z =>
        have hq : qc = 0 := by have := hju.out; rw [hJ3.out] at this; simpa using this.symm
        have hq2 := hok.out hq
        subst hq hq2
        simp only [Option.isSome_some]
        clear hju hJ3 hok
        go_wp2
        go_ret
        exact ⟨rfl, x7⟩
    · have hq : ¬ qc = 0 := by have := hju.out; rw [hJ2.out, one_not _ h1] at this; simpa using this.symm
      have m1 : ((qc : Int) == 0) = false := by simp; exact hq
      have m2 : ((qc : Int) != 0) = true := by simp; exact hq
      obtain ⟨ua, uc, rfl⟩ := hrow.lit
      have m3 : ((wl.length : Int) == 1) = false := by simp; omega
      generalize wl.length = m at m3 ⊢
      clear hq hju hJ2 hok h1 hIts hrow
      go_wp2
      go_ret
      exact ⟨rfl, xa⟩
  · have hq : ¬ qc = 0 := by have := hju.out; rw [hJJ.out, decide_eq_false hsb] at this; simpa using this.symm
    have m0 : ((sb : Int) == 0) = false := by simp; exact hsb
    have m1 : ((qc : Int) == 0) = false := by simp; exact hq
    have m2 : ((qc : Int) != 0) = true := by simp; exact hq
    obtain ⟨ua, uc, rfl⟩ := hrow.lit
    clear hq hju hJJ hok hIts hrow hWL hsb
    go_wp2
    go_ret
    exact ⟨rfl, xa⟩
end Go.Proofs.YtmcodhdphdckkaaGreatDoor

/-
  PacketJust: whatever the bytes, the call returns true and leaves them as they were; the listed tables start as the program's text lays them.
-/
namespace Go.Proofs.YtmcodhdphdckkaaGreatDoor.packetJust
open Go.ChangeShapes Go.WideShapes Go.ChangeAt Go.RowKit Go.Shelf

theorem bytes8 : Tryz.prog.bytesOf 5 = 1 := by kernel_rfl

set_option maxRecDepth 100000 in
theorem contract (H : Type) (enc : TypeId × Value → H) (W : World) (base : Nat) (args : Array Value) (ds gs : List (DataW H)) (before : List MemPlace)
    (hval : ∀ (j : Nat) t v, Tryz.f3.params[j]? = some t → args[j]? = some v → Value.okWide Tryz.prog W .any base t v)
    (hW : DataW.Whole enc Tryz.prog Tryz.f3.params.toList Rows.packetJustSpec.vars false W args.toList ds gs before) (hsz : (DataW.weightsEach Tryz.prog (Tryz.f3.params.toList ++ (OpenSpec.ofChange Rows.packetJustSpec).bare.plain.varTypes Tryz.prog) (ds ++ gs)).all (· ≤ reachBytes) = true) :
    Calls Tryz.prog 3 args W fun e W' => ∃ v, e = .returned v ∧ Rows.packetJustSpec.post enc Tryz.prog Tryz.f3 false true false false W args v W' := by
  have hW' := hW
  have hlt := hW.lt
  obtain ⟨p, q, hA0, hV, rfl, _, _⟩ := hW
  have hA : DataW.TrodAll enc Tryz.prog W 0 (fun _ => true) true Tryz.f3.params.toList args.toList ds p := hA0
  have hAa := hA
  rw [Tryz.params3] at hA hval
  obtain ⟨v0, vs0, d0, ds0, p0, q0, hargs, rfl, rfl, h0, r0⟩ := trodAll_cons hA
  obtain ⟨rfl, rfl, rfl⟩ := trodAll_nil r0
  obtain rfl : args = #[v0] := by cases args; simp_all
  obtain ⟨rfl, rfl⟩ := trodVars_none hV
  obtain ⟨l, hs, hd⟩ := open_bytes (hval 0 22 v0 rfl rfl) h0
  have hl : l.length < 36028797018963968 := by
    rcases hd with ⟨_, rfl⟩ | ⟨elems, spare, rfl, e⟩
    · simp
    · have h9 := sized_slice hsz (j := 0) (t := 22) (e := 5) (elems := elems) (spare := spare) rfl rfl Tryz.underlying22
      rw [show Tryz.prog.bytesOf 5 = 1 from bytes8] at h9
      unfold reachBytes at h9
      omega
  clear hA0
  simp only [List.append_nil] at hW' hlt hAa
  refine (PacketJust_any W v0 l hs hl).mono fun e W' ⟨he, hg⟩ => ?_
  subst he
  refine ⟨_, rfl, _, _, _, [], _, [], hW', ?_, args_again (by rw [Tryz.params3]; decide) hAa hlt hg, ?_, Below.frame hg _, fun h => by cases h⟩
  · exact trodAll_mk1 (shut_bool Tryz.underlying4 _)
  · rfl

theorem reads (os : Os) {H : Type} (enc : TypeId × Value → H) : ∃ places, DataW.whole enc Tryz.prog ((laidWorld os).forCall (fun _ _ => 0) ⟨#[], #[.slice none 0 0], []⟩).memory Tryz.f3.params.toList Rows.packetJustSpec.vars false #[Value.slice none 0 0].toList 8 = some ([.nil], [], places) :=
  ⟨[], by kernel_rfl⟩

set_option maxRecDepth 100000 in
theorem lifted (os : Os) (started : os.Started) (H : Type) (enc : TypeId × Value → H) (F : Stop.Interp) :
    ReturnsInHanded {} Tryz.checked os 3 .any ((OpenSpec.ofChange Rows.packetJustSpec).preRow enc Tryz.prog Tryz.f3 Rows.packetJustRow.domain false Rows.packetJustRow.laid) (((OpenSpec.ofChange Rows.packetJustSpec).at F).post enc Tryz.prog Tryz.f3 false true false false) := by
  obtain ⟨places, hx⟩ := reads os enc
  refine returnsInHanded_of_row (C := Tryz.checked) (s := OpenSpec.ofChange Rows.packetJustSpec) ownKnob_none started (by kernel_rfl) Tryz.func3
    (witness_row_atRef (enc := enc) (C := Tryz.checked) false (laidWorld os) #[.slice none 0 0] rfl (by kernel_rfl) (by kernel_rfl) (by kernel_rfl)
      (OpenSpec.preRow_of_cond 8 hx (by kernel_rfl) (fun k hk => by cases hk) (by kernel_rfl) (laid_met os _))) ?_
  intro W base args ds gs before hval hW _ _ hsz _ _ _
  exact contract H enc W base args ds gs before hval hW hsz

theorem said : Rows.PacketJustSaid :=
  OpenClaim.holds_of_cond 3 Tryz.f3 rfl rfl rfl rfl rfl rfl rfl ⟨rfl, rfl, rfl, rfl, rfl⟩ rfl rfl rfl rfl rfl (by kernel_rfl) Tryz.func3 (by kernel_rfl)
    (of_decide_eq_true (by kernel_rfl)) (by unfold Func.isWrapper; first | (rw [if_pos (by decide +kernel)]; kernel_rfl) | (rw [if_neg (by decide +kernel)]; exact ⟨rfl, rfl⟩))
    (fun os started H enc _ F => by rw [OpenClaim.pre_eq_preRow]; exact lifted os started H enc F)

theorem plain (f : FuncId) (fn : Func) (hf : Tryz.pinned.checked.prog.funcNamed "roster/rosterlaw11.PacketJust" = some f) (hfn : Tryz.pinned.checked.prog.funcs[f]? = some fn) :
    true = Tryz.pinned.checked.prog.looks [] ∧ ∀ (j : Nat) t, fn.params[j]? = some t → Tryz.pinned.checked.prog.wantsStandIn t = false := by
  obtain rfl : f = 3 := Option.some.inj ((show Tryz.prog.funcNamed "roster/rosterlaw11.PacketJust" = some 3 by kernel_rfl).symm.trans hf) |>.symm
  obtain rfl : fn = Tryz.f3 := (Option.some.inj (Tryz.func3.symm.trans hfn)).symm
  refine ⟨by kernel_rfl, fun j t ht => ?_⟩
  rw [Tryz.params3] at ht
  obtain rfl : t = 22 := by simpa using Array.mem_of_getElem? ht
  exact (show Tryz.prog.wantsStandIn 22 = false by kernel_rfl)

theorem card : Rows.PacketJustCardSaid :=
  Claim7.holds_tied_plain_at .later [] _ _ _ _ said (fun _ h => by cases h) (by kernel_rfl) (fun _ h => by cases h) packetJust_row_tie rfl ⟨rfl, rfl⟩ (by kernel_rfl) rfl plain (by kernel_rfl)
end Go.Proofs.YtmcodhdphdckkaaGreatDoor.packetJust
namespace Go.Proofs.YtmcodhdphdckkaaGreatDoor
theorem packetJust_card : Rows.PacketJustCardSaid := packetJust.card
end Go.Proofs.YtmcodhdphdckkaaGreatDoor
