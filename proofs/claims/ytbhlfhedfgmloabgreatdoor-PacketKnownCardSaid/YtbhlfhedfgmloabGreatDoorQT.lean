/-
  PacketKnown's examples, plain.
-/
import Derived.Test.YtbhlfhedfgmloabGreatDoorQW
import Derived.Lib.ConvBytes
import Derived.Test.YtbhlfhedfgmloabGreatDoorCards
import Derived.Test.YtbhlfhedfgmloabGreatDoorTie
import Derived.Test.YtbhlfhedfgmloabGreatDoorQC
import Derived.SizedLaws
namespace Go.Proofs.YtbhlfhedfgmloabGreatDoor

def k1S : ByteArray := ⟨#[164, 11, 4, 2, 99, 110, 48, 5, 128, 1, 97, 130, 0]⟩
def k2S : ByteArray := ⟨#[164, 8, 4, 2, 99, 110, 48, 2, 129, 0]⟩
def k3S : ByteArray := ⟨#[169, 10, 129, 2, 99, 110, 131, 1, 97, 132, 1, 255]⟩
def k1A : OwnF := ⟨4, cnS, ⟨#[]⟩, ⟨#[97]⟩, [], ⟨#[]⟩, ⟨#[]⟩, false⟩
def k2A : OwnF := { ownK 7 with desc := cnS, value := ⟨#[]⟩ }
def k3A : OwnF := ⟨9, ⟨#[]⟩, ⟨#[97]⟩, ⟨#[]⟩, [], ⟨#[]⟩, cnS, true⟩
theorem dec1 : decodeR (byt k1S) = .ok (k1A, .nil) := by rfl
theorem dec2 : decodeR (byt k2S) = .ok (k2A, .nil) := by rfl
theorem dec3 : decodeR (byt k3S) = .ok (k3A, .nil) := by rfl
theorem bad1 : decodeR (byt ⟨#[160, 0]⟩) = .error (90, 0) := by rfl
theorem bad2 : decodeR (byt ⟨#[162, 0]⟩) = .error (90, 0) := by rfl
theorem bad3 : decodeR (byt ⟨#[164, 6, 4, 2, 99, 110, 48, 0]⟩) = .error (90, 6) := by rfl
theorem bad4 : decodeR (byt ⟨#[162, 8, 135, 2, 99, 110, 135, 2, 99, 110]⟩) = .error (24, 6) := by rfl
theorem bad5 : decodeR (byt ⟨#[4, 1, 97]⟩) = .error (20, 0) := by rfl
theorem bad6 : decodeR (byt ⟨#[135, 2, 99]⟩) = .error (5, 0) := by rfl
theorem bad7 : decodeR (byt ⟨#[]⟩) = .error (5, 0) := by rfl
theorem bad8 : decodeR (byt ⟨#[135, 2, 99, 110, 0]⟩) = .error (24, 4) := by rfl
theorem bad9 : decodeR (byt ⟨#[135, 1, 59]⟩) = .error (90, 0) := by rfl
theorem badA : decodeR (byt ⟨#[169, 3, 131, 1, 97]⟩) = .error (90, 0) := by rfl
end Go.Proofs.YtbhlfhedfgmloabGreatDoor

/-
  PacketKnown: the examples (written by gen/mkyk.py).
-/
namespace Go.Proofs.YtbhlfhedfgmloabGreatDoor
open Go.RowKit Go.Shelf

theorem conv_sl (w : World) (s : ByteArray) (hs : s.size ≤ 65536) : ∃ cap w1, (convert 9 22 (.string s)).run Tryz.prog w = .ok (.slice (some ⟨w.heap.size, 0, none⟩) s.size cap) w1 ∧ Sl w1 (.slice (some ⟨w.heap.size, 0, none⟩) s.size cap) (byt s) ∧ Ext w w1 := by
  have hcv := Lib.run_convert_string_bytes w 9 22 5 s Tryz.underlying9 Tryz.underlying22 Tryz.underlying5
  refine ⟨_, _, hcv, sl_of (byt_length s).symm (grownCap_ge w s.size 0 5) (grownCap_le_maxLen w s.size 0 5 (by unfold maxLen; omega)) (fun j hj => ?_), ⟨rfl, rfl, rfl, by rw [Lib.bytesWorld_size]; omega, fun k hk => Lib.bytesWorld_at_old w _ s k hk⟩⟩
  have hg : (s.data.toList.getD j 0) = (byt s)[j] := by
    rw [List.getD_eq_getElem?_getD, List.getElem?_eq_getElem (show j < s.data.toList.length from hj)]; rfl
  rw [Nat.zero_add, Lib.bytesWorld_cell w _ s j (by rw [byt_length] at hj; exact hj), hg]
  rfl

set_option maxRecDepth 100000 in
set_option maxHeartbeats 4000000 in
theorem wrong_any (w : World) (s : ByteArray) (c : Nat) (n : Int) (hs : s.size ≤ 65536) (h : decodeR (byt s) = .error (c, n)) :
    Calls Tryz.prog 9 #[.string s, .int .i64 c, .int .i64 n] w fun e w' => e = .returned (.bool true) ∧ Ext w w' := by
  obtain ⟨cap, w1, hcv, hsl, x1⟩ := conv_sl w s hs
  have hD := Decode_any w1 _ (byt s) hsl (by rw [byt_length]; omega)
  rw [h] at hD
  clear h hsl
  go_enter Tryz.func9, Tryz.ntmps9
  go_wp2_with fail
  go_at_call 6
  refine hD.mono ?_
  rintro _ w2 ⟨x2, hx⟩
  have hx : _ = _ := hx
  subst hx
  simp only [F9.zero, F9.arr]
  have x3 := (x1.trans x2).trans ((Ext.refl w2).alloc (.cells #[.int .i8 0, .slice none 0 0, .string ⟨#[]⟩, .string ⟨#[]⟩, .string ⟨#[]⟩, .slice none 0 0, .string ⟨#[]⟩, .string ⟨#[]⟩, .bool false] 28))
  clear hcv hD x2
  try dsimp only
  go_wp2
  go_ret
  exact ⟨rfl, x3⟩

set_option maxRecDepth 100000 in
set_option maxHeartbeats 4000000 in
theorem right_any (w : World) (s : ByteArray) (f : F9) (a : OwnF) (hs : s.size ≤ 65536) (h : decodeR (byt s) = .ok (a, .nil)) (hf : ∀ W, FOwn W f a ∧ FKids W f .nil) :
    Calls Tryz.prog 10 #[.string s, .agg f.arr] w fun e w' => e = .returned (.bool true) ∧ Ext w w' := by
  obtain ⟨kP, kaP, knP, kcP, dP, vP, sP, maP, mnP, mcP, eP, rP, bP⟩ := f
  have f0 : FlT (w.alloc (.cells #[.int .i8 kP, .slice kaP knP kcP, .string dP, .string vP, .string sP, .slice maP mnP mcP, .string eP, .string rP, .bool bP] 28)) w.heap.size ⟨kP, kaP, knP, kcP, dP, vP, sP, maP, mnP, mcP, eP, rP, bP⟩ := heap_alloc_new _ _
  have x0 := (Ext.refl w).alloc (.cells #[.int .i8 kP, .slice kaP knP kcP, .string dP, .string vP, .string sP, .slice maP mnP mcP, .string eP, .string rP, .bool bP] 28)
  have hfh : Hid (∀ W, FOwn W ⟨kP, kaP, knP, kcP, dP, vP, sP, maP, mnP, mcP, eP, rP, bP⟩ a ∧ FKids W ⟨kP, kaP, knP, kcP, dP, vP, sP, maP, mnP, mcP, eP, rP, bP⟩ .nil) := hf
  simp only [F9.arr]
  clear hf
  go_enter Tryz.func10, Tryz.ntmps10
  go_upto_region 1 with fail
  generalize w.alloc _ = w1 at f0 x0 ⊢
  obtain ⟨cap, w2, hcv, hsl, x1⟩ := conv_sl w1 s hs
  have hD := Decode_any w2 _ (byt s) hsl (by rw [byt_length]; omega)
  rw [h] at hD
  clear h hsl
  go_wp2_with fail
  go_at_call 6
  refine hD.mono ?_
  rintro _ w3 ⟨x2, hx⟩
  obtain ⟨fh, rfl, hh⟩ := hx
  obtain ⟨hO, hK⟩ := hh.self
  obtain ⟨kH, kaH, knH, kcH, dH, vH, sH, maH, mnH, mcH, eH, rH, bH⟩ := fh
  simp only at hO hK
  simp only [F9.arr]
  have h4 : FlT (w3.alloc (.cells #[.int .i8 kH, .slice kaH knH kcH, .string dH, .string vH, .string sH, .slice maH mnH mcH, .string eH, .string rH, .bool bH] 28)) w3.heap.size ⟨kH, kaH, knH, kcH, dH, vH, sH, maH, mnH, mcH, eH, rH, bH⟩ := heap_alloc_new _ _
  have y4 := (Ext.refl w3).alloc (.cells #[.int .i8 kH, .slice kaH knH kcH, .string dH, .string vH, .string sH, .slice maH mnH mcH, .string eH, .string rH, .bool bH] 28)
  have f4 := f0.ext (x1.trans (x2.trans y4))
  have x4 := x0.trans (x1.trans (x2.trans y4))
  clear hcv hD x2 hh f0 x1 x0
  try dsimp only
  go_upto_region 2 with fail
  generalize w3.alloc _ = w4 at h4 y4 f4 x4 ⊢
  have v1 := hfh.out w4
  have hS := same_any w4 _ _ a a .nil .nil ⟨_, rfl, hO.ext y4, hK.ext y4⟩ ⟨_, rfl, v1.1, v1.2⟩
  rw [decide_eq_true (show a = a ∧ FT.nil = FT.nil from ⟨rfl, rfl⟩)] at hS
  simp only [F9.arr] at hS
  obtain ⟨c0, c1, c2, c3, c4, c5, c6, c7, c8, cz⟩ := f4.cells
  obtain ⟨d0, d1, d2, d3, d4, d5, d6, d7, d8, dz⟩ := h4.cells
  simp only at c0 c1 c2 c3 c4 c5 c6 c7 c8 d0 d1 d2 d3 d4 d5 d6 d7 d8
  clear v1 hO hK y4 hfh f4 h4
  go_wp2_with fail
  go_at_call 11
  refine hS.mono ?_
  rintro _ w5 ⟨rfl, x5⟩
  try dsimp only
  go_wp2
  go_ret
  exact ⟨rfl, x4.trans x5⟩
theorem own_any (w : World) (k : Int) (hk : 0 ≤ k ∧ k ≤ 9) (d v s e r : ByteArray) (b : Bool) (hd : d.size ≤ 65536) (hv : v.size ≤ 65536) (hs : s.size ≤ 65536) (he : e.size ≤ 65536) (hr : r.size ≤ 65536) : FOwn w ⟨k, none, 0, 0, d, v, s, none, 0, 0, e, r, b⟩ ⟨k, d, v, s, [], e, r, b⟩ ∧ FKids w ⟨k, none, 0, 0, d, v, s, none, 0, 0, e, r, b⟩ .nil :=
  ⟨⟨rfl, rfl, rfl, rfl, rfl, rfl, rfl, ⟨by show d.size ≤ _; omega, by show v.size ≤ _; omega, by show s.size ≤ _; omega, by show e.size ≤ _; omega, by show r.size ≤ _; omega⟩, ssl_nil rfl (Nat.zero_le _), fun s hs => (by cases hs), by show -128 ≤ k ∧ k ≤ 127; omega⟩, fkids_nil w k _ _ _ _ _ _ _ _ _⟩

set_option maxRecDepth 100000 in
set_option maxHeartbeats 8000000 in
theorem PacketKnown_any (w : World) : Calls Tryz.prog 4 #[] w fun e w' => e = .returned (.bool true) ∧ Ext w w' := by
  have r1 := fun W => right_any W k1S ⟨4, none, 0, 0, ⟨#[99, 110]⟩, ⟨#[]⟩, ⟨#[97]⟩, none, 0, 0, ⟨#[]⟩, ⟨#[]⟩, false⟩ k1A (by decide) dec1 (fun W => own_any W 4 (by omega) _ _ _ _ _ _ (by decide) (by decide) (by decide) (by decide) (by decide))
  have r2 := fun W => right_any W k2S ⟨7, none, 0, 0, ⟨#[99, 110]⟩, ⟨#[]⟩, ⟨#[]⟩, none, 0, 0, ⟨#[]⟩, ⟨#[]⟩, false⟩ k2A (by decide) dec2 (fun W => own_any W 7 (by omega) _ _ _ _ _ _ (by decide) (by decide) (by decide) (by decide) (by decide))
  have r3 := fun W => right_any W k3S ⟨9, none, 0, 0, ⟨#[]⟩, ⟨#[97]⟩, ⟨#[]⟩, none, 0, 0, ⟨#[]⟩, ⟨#[99, 110]⟩, true⟩ k3A (by decide) dec3 (fun W => own_any W 9 (by omega) _ _ _ _ _ _ (by decide) (by decide) (by decide) (by decide) (by decide))
  simp only [k1S, k2S, k3S, F9.arr] at r1 r2 r3
  have hbad1 := fun W => wrong_any W ⟨#[160, 0]⟩ 90 0 (by decide) bad1
  have hbad2 := fun W => wrong_any W ⟨#[162, 0]⟩ 90 0 (by decide) bad2
  have hbad3 := fun W => wrong_any W ⟨#[164, 6, 4, 2, 99, 110, 48, 0]⟩ 90 6 (by decide) bad3
  have hbad4 := fun W => wrong_any W ⟨#[162, 8, 135, 2, 99, 110, 135, 2, 99, 110]⟩ 24 6 (by decide) bad4
  have hbad5 := fun W => wrong_any W ⟨#[4, 1, 97]⟩ 20 0 (by decide) bad5
  have hbad6 := fun W => wrong_any W ⟨#[135, 2, 99]⟩ 5 0 (by decide) bad6
  have hbad7 := fun W => wrong_any W ⟨#[]⟩ 5 0 (by decide) bad7
  have hbad8 := fun W => wrong_any W ⟨#[135, 2, 99, 110, 0]⟩ 24 4 (by decide) bad8
  have hbad9 := fun W => wrong_any W ⟨#[135, 1, 59]⟩ 90 0 (by decide) bad9
  have hbadA := fun W => wrong_any W ⟨#[169, 3, 131, 1, 97]⟩ 90 0 (by decide) badA
  go_enter Tryz.func4, Tryz.ntmps4
  go_wp2_with fail
  go_at_call 10
  refine (r1 _).mono ?_
  rintro _ w1 ⟨rfl, x1⟩
  clear r1
  try dsimp only
  go_wp2_with fail
  go_at_call 10
  refine (r2 _).mono ?_
  rintro _ w2 ⟨rfl, x2⟩
  have x2 := x1.trans x2
  clear r2
  try dsimp only
  go_wp2_with fail
  go_at_call 10
  refine (r3 _).mono ?_
  rintro _ w3 ⟨rfl, x3⟩
  have x3 := x2.trans x3
  clear r3
  try dsimp only
  go_wp2_with fail
  go_at_call 9
  refine (hbad1 _).mono ?_
  rintro _ w4 ⟨rfl, x4⟩
  have x4 := x3.trans x4
  clear hbad1
  try dsimp only
  go_wp2_with fail
  go_at_call 9
  refine (hbad2 _).mono ?_
  rintro _ w5 ⟨rfl, x5⟩
  have x5 := x4.trans x5
  clear hbad2
  try dsimp only
  go_wp2_with fail
  go_at_call 9
  refine (hbad3 _).mono ?_
  rintro _ w6 ⟨rfl, x6⟩
  have x6 := x5.trans x6
  clear hbad3
  try dsimp only
  go_wp2_with fail
  go_at_call 9
  refine (hbad4 _).mono ?_
  rintro _ w7 ⟨rfl, x7⟩
  have x7 := x6.trans x7
  clear hbad4
  try dsimp only
  go_wp2_with fail
  go_at_call 9
  refine (hbad5 _).mono ?_
  rintro _ w8 ⟨rfl, x8⟩
  have x8 := x7.trans x8
  clear hbad5
  try dsimp only
  go_wp2_with fail
  go_at_call 9
  refine (hbad6 _).mono ?_
  rintro _ w9 ⟨rfl, x9⟩
  have x9 := x8.trans x9
  clear hbad6
  try dsimp only
  go_wp2_with fail
  go_at_call 9
  refine (hbad7 _).mono ?_
  rintro _ w10 ⟨rfl, x10⟩
  have x10 := x9.trans x10
  clear hbad7
  try dsimp only
  go_wp2_with fail
  go_at_call 9
  refine (hbad8 _).mono ?_
  rintro _ w11 ⟨rfl, x11⟩
  have x11 := x10.trans x11
  clear hbad8
  try dsimp only
  go_wp2_with fail
  go_at_call 9
  refine (hbad9 _).mono ?_
  rintro _ w12 ⟨rfl, x12⟩
  have x12 := x11.trans x12
  clear hbad9
  try dsimp only
  go_wp2_with fail
  go_at_call 9
  refine (hbadA _).mono ?_
  rintro _ w13 ⟨rfl, x13⟩
  have x13 := x12.trans x13
  clear hbadA
  try dsimp only
  go_wp2_with fail
  go_at_call 5
  refine (works_any _).mono ?_
  rintro _ w14 ⟨rfl, x14⟩
  have x14 := x13.trans x14
  try dsimp only
  go_wp2
  go_ret
  exact ⟨rfl, x14⟩
end Go.Proofs.YtbhlfhedfgmloabGreatDoor

/-
  PacketKnown: the call returns true; the listed tables start as the program's text lays them.
-/
namespace Go.Proofs.YtbhlfhedfgmloabGreatDoor.packetKnown
open Go.ChangeShapes Go.WideShapes Go.ChangeAt Go.RowKit

set_option maxRecDepth 100000 in
theorem contract (H : Type) (enc : TypeId × Value → H) (W : World) (base : Nat) (args : Array Value) (ds gs : List (DataW H)) (before : List MemPlace)
    (_hval : ∀ (j : Nat) t v, Tryz.f4.params[j]? = some t → args[j]? = some v → Value.okWide Tryz.prog W .any base t v)
    (hW : DataW.Whole enc Tryz.prog Tryz.f4.params.toList Rows.packetKnownSpec.vars false W args.toList ds gs before) (_hsz0 : (DataW.weightsEach Tryz.prog (Tryz.f4.params.toList ++ (OpenSpec.ofChange Rows.packetKnownSpec).bare.plain.varTypes Tryz.prog) (ds ++ gs)).all (· ≤ reachBytes) = true) (_hL : laidMetH Tryz.prog Rows.packetKnownRow.laid W) :
    Calls Tryz.prog 4 args W fun e W' => ∃ v, e = .returned v ∧ Rows.packetKnownSpec.post enc Tryz.prog Tryz.f4 false true false false W args v W' := by
  have hW' := hW
  obtain ⟨p, q, hA0, hV, rfl, _, _⟩ := hW
  have hA : DataW.TrodAll enc Tryz.prog W 0 (fun _ => true) true Tryz.f4.params.toList args.toList ds p := hA0
  rw [Tryz.params4] at hA
  obtain ⟨hargs, rfl, rfl⟩ := trodAll_nil hA
  obtain rfl : args = #[] := by cases args; simp_all
  obtain ⟨rfl, rfl⟩ := trodVars_none hV
  clear hA0
  simp only [List.append_nil] at hW'
  refine (PacketKnown_any W).mono fun e W' ⟨he, hg⟩ => ?_
  subst he
  refine ⟨_, rfl, _, _, _, [], [], [], hW', ?_, ?_, ?_, Below.frame hg _, fun h => by cases h⟩
  · exact trodAll_mk1 (shut_bool Tryz.underlying4 _)
  · exact trodAll_mk0
  · rfl

theorem reads (os : Os) {H : Type} (enc : TypeId × Value → H) : ∃ places, DataW.whole enc Tryz.prog ((laidWorld os).forCall (fun _ _ => 0) ⟨#[], #[], []⟩).memory Tryz.f4.params.toList Rows.packetKnownSpec.vars false (#[] : Array Value).toList 8 = some ([], [], places) :=
  ⟨[], by kernel_rfl⟩

set_option maxRecDepth 100000 in
theorem lifted (os : Os) (started : os.Started) (H : Type) (enc : TypeId × Value → H) (F : Stop.Interp) :
    ReturnsInHanded {} Tryz.checked os 4 .any ((OpenSpec.ofChange Rows.packetKnownSpec).preRow enc Tryz.prog Tryz.f4 Rows.packetKnownRow.domain false Rows.packetKnownRow.laid) (((OpenSpec.ofChange Rows.packetKnownSpec).at F).post enc Tryz.prog Tryz.f4 false true false false) := by
  obtain ⟨places, hx⟩ := reads os enc
  refine returnsInHanded_of_row (C := Tryz.checked) (s := OpenSpec.ofChange Rows.packetKnownSpec) ownKnob_none started (by kernel_rfl) Tryz.func4
    (witness_row_atRef (enc := enc) (C := Tryz.checked) false (laidWorld os) #[] rfl (by kernel_rfl) (by kernel_rfl) (by kernel_rfl)
      (OpenSpec.preRow_of_cond 8 hx (by kernel_rfl) (fun k hk => by cases hk) (by kernel_rfl) (laid_met os _))) ?_
  intro W base args ds gs before hval hW _ _ hsz hL _ _
  exact contract H enc W base args ds gs before hval hW hsz hL

theorem said : Rows.PacketKnownSaid :=
  OpenClaim.holds_of_cond 4 Tryz.f4 rfl rfl rfl rfl rfl rfl rfl ⟨rfl, rfl, rfl, rfl, rfl⟩ rfl rfl rfl rfl rfl (by kernel_rfl) Tryz.func4 (by kernel_rfl)
    (of_decide_eq_true (by kernel_rfl)) (by unfold Func.isWrapper; first | (rw [if_pos (by decide +kernel)]; kernel_rfl) | (rw [if_neg (by decide +kernel)]; exact ⟨rfl, rfl⟩))
    (fun os started H enc _ F => by rw [OpenClaim.pre_eq_preRow]; exact lifted os started H enc F)

theorem plain (f : FuncId) (fn : Func) (hf : Tryz.pinned.checked.prog.funcNamed "roster/rosterlaw11.PacketKnown" = some f) (hfn : Tryz.pinned.checked.prog.funcs[f]? = some fn) :
    true = Tryz.pinned.checked.prog.looks [] ∧ ∀ (j : Nat) t, fn.params[j]? = some t → Tryz.pinned.checked.prog.wantsStandIn t = false := by
  obtain rfl : f = 4 := Option.some.inj ((show Tryz.prog.funcNamed "roster/rosterlaw11.PacketKnown" = some 4 by kernel_rfl).symm.trans hf) |>.symm
  obtain rfl : fn = Tryz.f4 := (Option.some.inj (Tryz.func4.symm.trans hfn)).symm
  refine ⟨by kernel_rfl, fun j t ht => ?_⟩
  rw [Tryz.params4] at ht
  simp at ht

theorem card : Rows.PacketKnownCardSaid :=
  Claim7.holds_tied_plain_at .later [] _ _ _ _ said (fun _ h => by cases h) (by kernel_rfl) (fun _ h => by cases h) packetKnown_row_tie rfl ⟨rfl, rfl⟩ (by kernel_rfl) rfl plain (by kernel_rfl)
end Go.Proofs.YtbhlfhedfgmloabGreatDoor.packetKnown
namespace Go.Proofs.YtbhlfhedfgmloabGreatDoor
theorem packetKnown_card : Rows.PacketKnownCardSaid := packetKnown.card
end Go.Proofs.YtbhlfhedfgmloabGreatDoor
