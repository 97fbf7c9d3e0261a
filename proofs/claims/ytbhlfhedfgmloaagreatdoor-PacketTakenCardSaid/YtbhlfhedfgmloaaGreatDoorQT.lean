/-
  PacketTaken: what is read may be, and is written and read again as it was (written by gen/mktaken.py).
-/
import Derived.Test.YtbhlfhedfgmloaaGreatDoorQW
import Derived.Test.YtbhlfhedfgmloaaGreatDoorCards
import Derived.Test.YtbhlfhedfgmloaaGreatDoorTie
import Derived.Test.YtbhlfhedfgmloaaGreatDoorQC
import Derived.SizedLaws
namespace Go.Proofs.YtbhlfhedfgmloaaGreatDoor
open Go.RowKit Go.Shelf

theorem nz_decode (l : List UInt8) : NZ (decodeR l) := nz_bind (nz_takeT _ _ _) fun _ => nz_ite (nz_err (by decide)) (nz_ok _)
theorem zero_fv (w : World) : FOwn w F9.zero (ownK 0) ∧ FKids w F9.zero .nil := ⟨own_plain w 0 (by omega) none 0 0 ⟨#[]⟩ ⟨#[]⟩ (Nat.zero_le _) (Nat.zero_le _), fkids_nil w 0 _ _ _ _ _ _ _ _ _⟩

set_option maxRecDepth 100000 in
set_option maxHeartbeats 8000000 in
theorem PacketTaken_any (w : World) (v : Value) (l : List UInt8) (hs : Sl w v l) (hl : l.length < 36028797018963968) :
    Calls Tryz.prog 8 #[v] w fun e w' => e = .returned (.bool true) ∧ Ext w w' := by
  obtain ⟨sa, sn, sc, rfl⟩ := hs.lit
  have hW := works_any w
  have hD := fun W (y : Ext w W) => Decode_any W _ l (hs.ext y) hl
  have hnz := nz_decode l
  have hmay : Hid (∀ a k, decodeR l = .ok (a, k) → (checkL a k).1 = 0) := fun a k h => decode_may h
  generalize decodeR l = R at hD hnz hmay
  clear hs hl
  go_enter Tryz.func8, Tryz.ntmps8
  go_wp2_with fail
  go_at_call 15
  refine hW.mono ?_
  rintro _ w1 ⟨rfl, x1⟩
  have hD1 := hD _ x1
  clear hW hD
  try dsimp only
  go_wp2_with fail
  go_at_call 11
  refine hD1.mono ?_
  rintro _ w2 ⟨x2, hd⟩
  have x12 := x1.trans x2
  clear hD1
  cases R with
  | error q =>
    have hx : _ = _ := hd
    subst hx
    obtain ⟨qc, qn⟩ := q
    have hq := hnz _ rfl
    have hq' : ((qc : Int) != 0) = true := by simp; exact hq
    have f3 : FlT (w2.alloc (.cells #[.int .i8 0, .slice none 0 0, .string ⟨#[]⟩, .string ⟨#[]⟩, .string ⟨#[]⟩, .slice none 0 0, .string ⟨#[]⟩, .string ⟨#[]⟩, .bool false] 27)) w2.heap.size F9.zero := heap_alloc_new _ _
    have x3 := x12.trans ((Ext.refl w2).alloc (.cells #[.int .i8 0, .slice none 0 0, .string ⟨#[]⟩, .string ⟨#[]⟩, .string ⟨#[]⟩, .slice none 0 0, .string ⟨#[]⟩, .string ⟨#[]⟩, .bool false] 27))
    simp only [F9.zero, F9.arr]
    clear hq hnz hmay hd x2 x1 x12
    try dsimp only
    go_upto_region 4 with fail
    generalize w2.alloc _ = w3 at f3 x3 ⊢
    have hz := zero_fv w3
    have hS := same_any w3 (.agg F9.zero.arr) (.agg F9.zero.arr) (ownK 0) (ownK 0) .nil .nil ⟨_, rfl, hz.1, hz.2⟩ ⟨_, rfl, hz.1, hz.2⟩
    rw [decide_eq_true (show ownK 0 = ownK 0 ∧ FT.nil = FT.nil from ⟨rfl, rfl⟩)] at hS
    simp only [F9.zero, F9.arr] at hS
    obtain ⟨c0, c1, c2, c3, c4, c5, c6, c7, c8, cz⟩ := f3.cells
    simp only [F9.zero] at c0 c1 c2 c3 c4 c5 c6 c7 c8
    clear hz f3
    go_wp2_with fail
    go_at_call 12
    refine hS.mono ?_
    rintro _ w4 ⟨rfl, x4⟩
    try dsimp only
    go_wp2
    go_ret
    exact ⟨rfl, x3.trans x4⟩
  | ok r =>
    obtain ⟨a, k⟩ := r
    obtain ⟨f, rfl, hf⟩ := hd
    obtain ⟨fO, fK⟩ := hf.self
    have hc0 := hmay.out a k rfl
    have hC := fun W (y : Ext w2 W) => Check_any W (.agg f.arr) a k ⟨f, rfl, fO.ext y, fK.ext y⟩
    have hE := fun W (y : Ext w2 W) => Encode_any W f a k (fO.ext y) (fK.ext y)
    have hV : Hid (∀ W, Ext w2 W → FOwn W f a ∧ FKids W f k) := fun W y => ⟨fO.ext y, fK.ext y⟩
    have hen : encL a k = ([], 3) ∨ encL a k = (bOne a (bKids k), 0) ∧ (bOne a (bKids k)).length ≤ 1048576 := by
      rcases encL_is a k with h | h
      · exact absurd hc0 h.2
      · exact h.2
    have hback : Hid ((bOne a (bKids k)).length ≤ 1048576 → decodeR (bOne a (bKids k)) = .ok (a, k)) := fun h => decode_back hc0 h
    rw [hc0] at hC
    generalize checkL a k = ck at hC
    obtain ⟨ck1, ck2, ck3⟩ := ck
    simp only at hC
    generalize bOne a (bKids k) = bs at hen hback
    generalize encL a k = en at hE hen
    obtain ⟨kG, kaG, knG, kcG, dG, vG, sG, maG, mnG, mcG, eG, rG, bG⟩ := f
    simp only [F9.arr] at hC hE ⊢
    have g3 : FlT (w2.alloc (.cells #[.int .i8 kG, .slice kaG knG kcG, .string dG, .string vG, .string sG, .slice maG mnG mcG, .string eG, .string rG, .bool bG] 27)) w2.heap.size ⟨kG, kaG, knG, kcG, dG, vG, sG, maG, mnG, mcG, eG, rG, bG⟩ := heap_alloc_new _ _
    have y3 := (Ext.refl w2).alloc (.cells #[.int .i8 kG, .slice kaG knG kcG, .string dG, .string vG, .string sG, .slice maG mnG mcG, .string eG, .string rG, .bool bG] 27)
    clear hnz hmay hf fO fK hc0 x1 x2
    try dsimp only
    go_upto_region 4 with fail
    generalize w2.alloc _ = w3 at g3 y3 ⊢
    obtain ⟨c0, c1, c2, c3, c4, c5, c6, c7, c8, cz⟩ := g3.cells
    simp only at c0 c1 c2 c3 c4 c5 c6 c7 c8
    have hC3 := hC _ y3
    go_wp2_with fail
    go_at_call 36
    refine hC3.mono ?_
    rintro _ w4 ⟨rfl, x4⟩
    have g4 := g3.ext x4
    have y4 := y3.trans x4
    have hE4 := hE _ y4
    clear c0 c1 c2 c3 c4 c5 c6 c7 c8 cz g3 y3 x4 hC hC3 hE
    obtain ⟨c0, c1, c2, c3, c4, c5, c6, c7, c8, cz⟩ := g4.cells
    simp only at c0 c1 c2 c3 c4 c5 c6 c7 c8
    try dsimp only
    go_wp2_with fail
    go_at_call 21
    refine hE4.mono ?_
    rintro _ w5 ⟨u, rfl, r5, x5⟩
    have g5 := g4.ext x5
    have y5 := y4.trans x5
    clear c0 c1 c2 c3 c4 c5 c6 c7 c8 cz g4 hE4 y4 x5
    rcases hen with rfl | ⟨rfl, hbl⟩
    · clear hback hV r5
      try dsimp only
      go_wp2
      go_ret
      exact ⟨rfl, x12.trans y5⟩
    · have hs5 := r5.sl
      obtain ⟨ua, un, uc, rfl⟩ := hs5.lit
      have hD5 := Decode_any w5 _ bs hs5 (Nat.lt_of_le_of_lt hbl (by decide))
      rw [hback.out hbl] at hD5
      clear hback r5 hs5
      try dsimp only
      go_wp2_with fail
      go_at_call 11
      refine hD5.mono ?_
      rintro _ w6 ⟨x6, hd6⟩
      obtain ⟨fh, rfl, hh⟩ := hd6
      obtain ⟨hO, hK⟩ := hh.self
      obtain ⟨kH, kaH, knH, kcH, dH, vH, sH, maH, mnH, mcH, eH, rH, bH⟩ := fh
      simp only at hO hK
      simp only [F9.arr]
      have h7 : FlT (w6.alloc (.cells #[.int .i8 kH, .slice kaH knH kcH, .string dH, .string vH, .string sH, .slice maH mnH mcH, .string eH, .string rH, .bool bH] 27)) w6.heap.size ⟨kH, kaH, knH, kcH, dH, vH, sH, maH, mnH, mcH, eH, rH, bH⟩ := heap_alloc_new _ _
      have y7 := (Ext.refl w6).alloc (.cells #[.int .i8 kH, .slice kaH knH kcH, .string dH, .string vH, .string sH, .slice maH mnH mcH, .string eH, .string rH, .bool bH] 27)
      have g7 := g5.ext (x6.trans y7)
      have y57 := y5.trans (x6.trans y7)
      clear hh hD5 x6 g5 hbl
      try dsimp only
      go_upto_region 11 with fail
      generalize w6.alloc _ = w7 at h7 y7 g7 y57 ⊢
      have v1 := hV.out w7 y57
      have hS := same_any w7 _ _ a a k k ⟨_, rfl, hO.ext y7, hK.ext y7⟩ ⟨_, rfl, v1.1, v1.2⟩
      rw [decide_eq_true (show a = a ∧ k = k from ⟨rfl, rfl⟩)] at hS
      simp only [F9.arr] at hS
      obtain ⟨c0, c1, c2, c3, c4, c5, c6, c7, c8, cz⟩ := g7.cells
      obtain ⟨d0, d1, d2, d3, d4, d5, d6, d7, d8, dz⟩ := h7.cells
      simp only at c0 c1 c2 c3 c4 c5 c6 c7 c8 d0 d1 d2 d3 d4 d5 d6 d7 d8
      clear v1 hO hK y7 hV g7 h7 y5
      go_wp2_with fail
      go_at_call 12
      refine hS.mono ?_
      rintro _ w8 ⟨rfl, x8⟩
      try dsimp only
      go_wp2
      go_ret
      exact ⟨rfl, x12.trans (y57.trans x8)⟩
end Go.Proofs.YtbhlfhedfgmloaaGreatDoor

/-
  PacketTaken: whatever the bytes, the call returns true and leaves them as they were; the listed tables start as the program's text lays them.
-/
namespace Go.Proofs.YtbhlfhedfgmloaaGreatDoor.packetTaken
open Go.ChangeShapes Go.WideShapes Go.ChangeAt Go.RowKit Go.Shelf

theorem bytes8 : Tryz.prog.bytesOf 5 = 1 := by kernel_rfl

set_option maxRecDepth 100000 in
theorem contract (H : Type) (enc : TypeId × Value → H) (W : World) (base : Nat) (args : Array Value) (ds gs : List (DataW H)) (before : List MemPlace)
    (hval : ∀ (j : Nat) t v, Tryz.f8.params[j]? = some t → args[j]? = some v → Value.okWide Tryz.prog W .any base t v)
    (hW : DataW.Whole enc Tryz.prog Tryz.f8.params.toList Rows.packetTakenSpec.vars false W args.toList ds gs before) (hsz : (DataW.weightsEach Tryz.prog (Tryz.f8.params.toList ++ (OpenSpec.ofChange Rows.packetTakenSpec).bare.plain.varTypes Tryz.prog) (ds ++ gs)).all (· ≤ reachBytes) = true) :
    Calls Tryz.prog 8 args W fun e W' => ∃ v, e = .returned v ∧ Rows.packetTakenSpec.post enc Tryz.prog Tryz.f8 false true false false W args v W' := by
  have hW' := hW
  have hlt := hW.lt
  obtain ⟨p, q, hA0, hV, rfl, _, _⟩ := hW
  have hA : DataW.TrodAll enc Tryz.prog W 0 (fun _ => true) true Tryz.f8.params.toList args.toList ds p := hA0
  have hAa := hA
  rw [Tryz.params8] at hA hval
  obtain ⟨v0, vs0, d0, ds0, p0, q0, hargs, rfl, rfl, h0, r0⟩ := trodAll_cons hA
  obtain ⟨rfl, rfl, rfl⟩ := trodAll_nil r0
  obtain rfl : args = #[v0] := by cases args; simp_all
  obtain ⟨rfl, rfl⟩ := trodVars_none hV
  obtain ⟨l, hs, hd⟩ := open_bytes (hval 0 22 v0 rfl rfl) h0
  have hl : l.length < 36028797018963968 := by
    rcases hd with ⟨_, rfl⟩ | ⟨elems, spare, rfl, e⟩
    · simp
    · have h9 := sized_slice hsz (j := 0) (t := 22) (e := 5) (elems := elems) (spare := spare) rfl rfl Tryz.underlying22
      rw [show Tryz.prog.bytesOf 5 = 1 from bytes8] at h9
      unfold reachBytes at h9
      omega
  clear hA0
  simp only [List.append_nil] at hW' hlt hAa
  refine (PacketTaken_any W v0 l hs hl).mono fun e W' ⟨he, hg⟩ => ?_
  subst he
  refine ⟨_, rfl, _, _, _, [], _, [], hW', ?_, args_again (by rw [Tryz.params8]; decide) hAa hlt hg, ?_, Below.frame hg _, fun h => by cases h⟩
  · exact trodAll_mk1 (shut_bool Tryz.underlying4 _)
  · rfl

theorem reads (os : Os) {H : Type} (enc : TypeId × Value → H) : ∃ places, DataW.whole enc Tryz.prog ((laidWorld os).forCall (fun _ _ => 0) ⟨#[], #[.slice none 0 0], []⟩).memory Tryz.f8.params.toList Rows.packetTakenSpec.vars false #[Value.slice none 0 0].toList 8 = some ([.nil], [], places) :=
  ⟨[], by kernel_rfl⟩

set_option maxRecDepth 100000 in
theorem lifted (os : Os) (started : os.Started) (H : Type) (enc : TypeId × Value → H) (F : Stop.Interp) :
    ReturnsInHanded {} Tryz.checked os 8 .any ((OpenSpec.ofChange Rows.packetTakenSpec).preRow enc Tryz.prog Tryz.f8 Rows.packetTakenRow.domain false Rows.packetTakenRow.laid) (((OpenSpec.ofChange Rows.packetTakenSpec).at F).post enc Tryz.prog Tryz.f8 false true false false) := by
  obtain ⟨places, hx⟩ := reads os enc
  refine returnsInHanded_of_row (C := Tryz.checked) (s := OpenSpec.ofChange Rows.packetTakenSpec) ownKnob_none started (by kernel_rfl) Tryz.func8
    (witness_row_atRef (enc := enc) (C := Tryz.checked) false (laidWorld os) #[.slice none 0 0] rfl (by kernel_rfl) (by kernel_rfl) (by kernel_rfl)
      (OpenSpec.preRow_of_cond 8 hx (by kernel_rfl) (fun k hk => by cases hk) (by kernel_rfl) (laid_met os _))) ?_
  intro W base args ds gs before hval hW _ _ hsz _ _ _
  exact contract H enc W base args ds gs before hval hW hsz

theorem said : Rows.PacketTakenSaid :=
  OpenClaim.holds_of_cond 8 Tryz.f8 rfl rfl rfl rfl rfl rfl rfl ⟨rfl, rfl, rfl, rfl, rfl⟩ rfl rfl rfl rfl rfl (by kernel_rfl) Tryz.func8 (by kernel_rfl)
    (of_decide_eq_true (by kernel_rfl)) (by unfold Func.isWrapper; first | (rw [if_pos (by decide +kernel)]; kernel_rfl) | (rw [if_neg (by decide +kernel)]; exact ⟨rfl, rfl⟩))
    (fun os started H enc _ F => by rw [OpenClaim.pre_eq_preRow]; exact lifted os started H enc F)

theorem plain (f : FuncId) (fn : Func) (hf : Tryz.pinned.checked.prog.funcNamed "roster/rosterlaw11.PacketTaken" = some f) (hfn : Tryz.pinned.checked.prog.funcs[f]? = some fn) :
    true = Tryz.pinned.checked.prog.looks [] ∧ ∀ (j : Nat) t, fn.params[j]? = some t → Tryz.pinned.checked.prog.wantsStandIn t = false := by
  obtain rfl : f = 8 := Option.some.inj ((show Tryz.prog.funcNamed "roster/rosterlaw11.PacketTaken" = some 8 by kernel_rfl).symm.trans hf) |>.symm
  obtain rfl : fn = Tryz.f8 := (Option.some.inj (Tryz.func8.symm.trans hfn)).symm
  refine ⟨by kernel_rfl, fun j t ht => ?_⟩
  rw [Tryz.params8] at ht
  obtain rfl : t = 22 := by simpa using Array.mem_of_getElem? ht
  exact (show Tryz.prog.wantsStandIn 22 = false by kernel_rfl)

theorem card : Rows.PacketTakenCardSaid :=
  Claim7.holds_tied_plain_at .later [] _ _ _ _ said (fun _ h => by cases h) (by kernel_rfl) (fun _ h => by cases h) packetTaken_row_tie rfl ⟨rfl, rfl⟩ (by kernel_rfl) rfl plain (by kernel_rfl)
end Go.Proofs.YtbhlfhedfgmloaaGreatDoor.packetTaken
namespace Go.Proofs.YtbhlfhedfgmloaaGreatDoor
theorem packetTaken_card : Rows.PacketTakenCardSaid := packetTaken.card
end Go.Proofs.YtbhlfhedfgmloaaGreatDoor
