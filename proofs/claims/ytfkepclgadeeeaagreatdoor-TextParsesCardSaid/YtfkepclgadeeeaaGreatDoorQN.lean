/-
  The program's reader of any text: filters with kids, plain; the ( that begins a part.
-/
import Derived.Test.YtfkepclgadeeeaaGreatDoorQM
namespace Go.Proofs.YtfkepclgadeeeaaGreatDoor
open Go.RowKit Go.Shelf

/-- what is read, the place behind it and the parts counted so far; or a fault's number and its place -/
inductive Tq (α : Type) where
  | ok (x : α) (q k : Nat)
  | bad (c a : Nat)
def Tq.bind {α β : Type} (o : Tq α) (g : α → Nat → Nat → Tq β) : Tq β := match o with
  | .ok x q k => g x q k
  | .bad c a => .bad c a
def Tr.at_ {α : Type} (o : Tr α) (k : Nat) : Tq α := match o with
  | .ok x q => .ok x q k
  | .bad c a => .bad c a
/-- the ( of a part that lies so deep -/
def openR (s : ByteArray) (d p k : Nat) : Tq Unit :=
  if hdIs 40 ((byt s).drop p) then
    if 64 < d then .bad 91 p
    else if hdIs 33 ((byt s).drop (p + 1)) then (if 65536 < k then .bad 3 p else .ok () (p + 1) k)
    else if 65536 < k + 1 then .bad 3 p else .ok () (p + 1) (k + 1)
  else .bad (stuckC s p) p
/-- kids behind the first one: as long as a ( comes -/
def ksGo (rec : Nat → Nat → Tq (OwnF × FT)) (s : ByteArray) : Nat → List (OwnF × FT) → Nat → Nat → Tq (List (OwnF × FT))
  | 0, l, p, k => .ok l p k
  | n + 1, l, p, k => if hdIs 40 ((byt s).drop p) then (rec p k).bind fun x q k' => ksGo rec s n (l ++ [x]) q k' else .ok l p k
def ksR (rec : Nat → Nat → Tq (OwnF × FT)) (s : ByteArray) (p k : Nat) : Tq (List (OwnF × FT)) := (rec p k).bind fun x q k' => ksGo rec s (s.size + 1) [x] q k'
/-- And, Or or Not -/
def nodeO (kind : Int) : OwnF := ⟨kind, ⟨#[]⟩, ⟨#[]⟩, ⟨#[]⟩, [], ⟨#[]⟩, ⟨#[]⟩, false⟩
/-- what stands between ( and ) -/
def bodyR (rec : Nat → Nat → Tq (OwnF × FT)) (s : ByteArray) (p k : Nat) : Tq (OwnF × FT) :=
  if hdIs 38 ((byt s).drop p) then (ksR rec s (p + 1) k).bind fun l q k' => .ok (nodeO 0, toFT l) q k'
  else if hdIs 124 ((byt s).drop p) then (ksR rec s (p + 1) k).bind fun l q k' => .ok (nodeO 1, toFT l) q k'
  else if hdIs 33 ((byt s).drop p) then (rec (p + 1) k).bind fun x q k' => .ok (nodeO 2, toFT [x]) q k'
  else ((itemR s p).at_ k).bind fun a q k' => .ok (a, .nil) q k'
/-- a filter that lies so deep; n levels are left -/
def filR (s : ByteArray) : Nat → Nat → Nat → Nat → Tq (OwnF × FT)
  | 0, d, p, k => (openR s d p k).bind fun _ _ _ => .bad 91 p
  | n + 1, d, p, k => (openR s d p k).bind fun _ q k' => (bodyR (filR s n (d + 1)) s q k').bind fun x r k2 =>
      if hdIs 41 ((byt s).drop r) then .ok x (r + 1) k2 else .bad (stuckC s r) r
def wholeR (s : ByteArray) : Tq (OwnF × FT) := (filR s 64 1 0 0).bind fun x q k => if q < s.size then .bad 50 q else .ok x q k

/-- a step of the reader that hands on an error alone -/
def OpPost (w : World) (R : Nat) (s : ByteArray) (o : Tq Unit) (e : Ending) (w' : World) : Prop :=
  Only (fun g => g = R) w w' ∧ match o with
  | .ok _ q k => e = .returned .nilIface ∧ RdT w' R s q k
  | .bad c a => ∃ g q k, e = .returned (errV g) ∧ w.heap.size ≤ g ∧ FtAt w' g c a ⟨#[]⟩ ∧ RdT w' R s q k
end Go.Proofs.YtfkepclgadeeeaaGreatDoor

/-
  The program's reader of any text: the ( that begins a part, walked.
-/
namespace Go.Proofs.YtfkepclgadeeeaaGreatDoor
open Go.RowKit Go.Shelf

set_option maxRecDepth 100000 in
set_option maxHeartbeats 8000000 in
theorem openR_any (w : World) (R : Nat) (s : ByteArray) (d p k : Nat) (hr : RdT w R s p k) (hs : s.size ≤ 8796093022000) (hk : k ≤ 65536) (hd : d ≤ 1000000) :
    Calls Tryz.prog 36 #[.pointer (some ⟨R, 0, none⟩), .int .i64 d] w (OpPost w R s (openR s d p k)) := by
  have hM := must_any w R s p k 40 hr (by omega)
  have hN := fun W (y : RdT W R s (p + 1) k) => isNext_any W R s (p + 1) k 33 y
  have hF := fault_any
  obtain ⟨o, ho⟩ : ∃ o, Hid (o = openR s d p k) := ⟨_, rfl⟩
  rw [← ho.out]
  obtain ⟨-, c1, -, -⟩ := hr.cells
  clear hr
  cases h40 : hdIs 40 ((byt s).drop p) with
  | false =>
    have hoq : Hid (o = .bad (stuckC s p) p) := by show _ = _; rw [ho.out]; unfold openR; rw [h40]; rfl
    rw [h40] at hM
    simp only [Bool.false_eq_true, ↓reduceIte] at hM
    clear ho h40
    go_enter Tryz.func36, Tryz.ntmps36
    go_wp2_with fail
    go_at_call 38
    refine hM.mono ?_
    rintro _ w1 ⟨⟨v, rfl, hn⟩, r1, o1⟩
    obtain ⟨g, rfl, h1, h2⟩ := hn.no
    have hz : Hid (OpPost w R s o (.returned (errV g)) w1) := by rw [hoq.out]; exact ⟨o1, g, p, k, rfl, h1, h2, r1⟩
    unfold errV at hz ⊢
    clear hn h2
    go_wp2
    go_ret
    exact hz.out
  | true =>
    rw [h40] at hM
    simp only [↓reduceIte] at hM
    by_cases h64 : 64 < d
    · have hoq : Hid (o = .bad 91 p) := by show _ = _; rw [ho.out]; unfold openR; rw [if_pos h40, if_pos h64]
      have h64i : (64 : Int) < (d : Int) := by omega
      clear ho h40
      go_enter Tryz.func36, Tryz.ntmps36
      go_wp2_with fail
      go_at_call 38
      refine hM.mono ?_
      rintro _ w1 ⟨⟨v, rfl, hn⟩, r1, o1⟩
      obtain rfl := hn.yes
      clear hn
      go_wp2_with fail
      go_at_call 39
      refine (hF _ 91 p).mono ?_
      rintro _ w3 ⟨rfl, rfl⟩
      unfold errV
      go_wp2
      go_ret
      rw [hoq.out]
      exact ⟨o1.alloc _, _, p + 1, k, rfl, o1.size, heap_alloc_new _ _, r1.ext ((Ext.refl _).alloc _)⟩
    · have h64i : ¬ (64 : Int) < (d : Int) := by omega
      cases h33 : hdIs 33 ((byt s).drop (p + 1)) with
      | true =>
        have hoq : Hid (o = .ok () (p + 1) k) := by show _ = _; rw [ho.out]; unfold openR; rw [if_pos h40, if_neg h64, if_pos h33, if_neg (by omega)]
        have hki : ¬ (65536 : Int) < (k : Int) := by omega
        clear ho h40
        go_enter Tryz.func36, Tryz.ntmps36
        go_wp2_with fail
        go_at_call 38
        refine hM.mono ?_
        rintro _ w1 ⟨⟨v, rfl, hn⟩, r1, o1⟩
        obtain rfl := hn.yes
        clear hn c1
        have hN1 := hN w1 r1
        rw [h33] at hN1
        go_wp2_with fail
        go_at_call 60
        refine hN1.mono ?_
        rintro _ _ ⟨rfl, m, rfl⟩
        obtain ⟨-, -, c2, -⟩ := (r1.drewN m).cells
        go_wp2
        go_ret
        rw [hoq.out]
        exact ⟨o1.drewN m, rfl, r1.drewN m⟩
      | false =>
        obtain ⟨k1, hk1e⟩ : ∃ k1, Hid (k1 = k + 1) := ⟨_, rfl⟩
        have hw : IntKind.i64.wrap ((k : Int) + 1) = (k1 : Int) := by have := hk1e.out; rw [IntKind.wrap_i64]; omega
        by_cases hk1 : 65536 < k1
        · have hoq : Hid (o = .bad 3 p) := by show _ = _; rw [ho.out]; unfold openR; rw [if_pos h40, if_neg h64, if_neg (by rw [h33]; decide), ← hk1e.out, if_pos hk1]
          have hki : (65536 : Int) < (k1 : Int) := by omega
          clear ho h40
          go_enter Tryz.func36, Tryz.ntmps36
          go_wp2_with fail
          go_at_call 38
          refine hM.mono ?_
          rintro _ w1 ⟨⟨v, rfl, hn⟩, r1, o1⟩
          obtain rfl := hn.yes
          clear hn c1
          have hN1 := hN w1 r1
          rw [h33] at hN1
          go_wp2_with fail
          go_at_call 60
          refine hN1.mono ?_
          rintro _ _ ⟨rfl, m, rfl⟩
          have r2 := r1.drewN m
          have o2 := o1.drewN m
          generalize w1.drewN m = w2 at r2 o2 ⊢
          obtain ⟨-, -, c2, fz⟩ := r2.cells
          have fz2 := fz 2
          have r3 := r2.set2 k1
          have o3 := o2.then (setOnly w2 R 2 (.int .i64 (k1 : Int)))
          clear fz
          go_wp2_with fail
          clear c2 fz2
          generalize w2.setCell _ _ = w4 at r3 o3 ⊢
          go_at_call 39
          refine (hF _ 3 p).mono ?_
          rintro _ w3 ⟨rfl, rfl⟩
          unfold errV
          go_wp2
          go_ret
          rw [hoq.out]
          exact ⟨o3.alloc _, _, p + 1, k1, rfl, o3.size, heap_alloc_new _ _, r3.ext ((Ext.refl _).alloc _)⟩
        · have hoq : Hid (o = .ok () (p + 1) k1) := by show _ = _; rw [ho.out]; unfold openR; rw [if_pos h40, if_neg h64, if_neg (by rw [h33]; decide), ← hk1e.out, if_neg hk1]
          have hki : ¬ (65536 : Int) < (k1 : Int) := by omega
          clear ho h40
          go_enter Tryz.func36, Tryz.ntmps36
          go_wp2_with fail
          go_at_call 38
          refine hM.mono ?_
          rintro _ w1 ⟨⟨v, rfl, hn⟩, r1, o1⟩
          obtain rfl := hn.yes
          clear hn c1
          have hN1 := hN w1 r1
          rw [h33] at hN1
          go_wp2_with fail
          go_at_call 60
          refine hN1.mono ?_
          rintro _ _ ⟨rfl, m, rfl⟩
          have r2 := r1.drewN m
          have o2 := o1.drewN m
          generalize w1.drewN m = w2 at r2 o2 ⊢
          obtain ⟨-, -, c2, fz⟩ := r2.cells
          have fz2 := fz 2
          have r3 := r2.set2 k1
          have o3 := o2.then (setOnly w2 R 2 (.int .i64 (k1 : Int)))
          clear fz
          go_wp2
          go_ret
          rw [hoq.out]
          exact ⟨o3, rfl, r3⟩
end Go.Proofs.YtfkepclgadeeeaaGreatDoor

/-
  The program's reader of any text: rows of kids; the first kid.
-/
namespace Go.Proofs.YtfkepclgadeeeaaGreatDoor
open Go.RowKit Go.Shelf

theorem FKeep.next {B : Nat → Prop} {w w' : World} {f : F9} {a : OwnF} {k : FT} (h : FKeep B w f a k) (hw : ∀ g, B g → w'.heap[g]? = w.heap[g]?) : FKeep B w' f a k := fun w2 h2 => h w2 (fun g hg => (h2 g hg).trans (hw g hg))
theorem FKeep.wide {B B' : Nat → Prop} {w : World} {f : F9} {a : OwnF} {k : FT} (h : FKeep B w f a k) (hB : ∀ g, B g → B' g) : FKeep B' w f a k := fun w2 h2 => h w2 (fun g hg => h2 g (hB g hg))
theorem KeepL.next {B : Nat → Prop} {w w' : World} (hw : ∀ g, B g → w'.heap[g]? = w.heap[g]?) : ∀ {fs : List F9} {r : List (OwnF × FT)}, KeepL B w fs r → KeepL B w' fs r
  | [], [], _ => trivial
  | _ :: _, (_, _) :: _, h => ⟨h.1.next hw, KeepL.next hw h.2⟩
  | [], _ :: _, h => h.elim
  | _ :: _, [], h => h.elim
theorem KeepL.wide {B B' : Nat → Prop} {w : World} (hB : ∀ g, B g → B' g) : ∀ {fs : List F9} {r : List (OwnF × FT)}, KeepL B w fs r → KeepL B' w fs r
  | [], [], _ => trivial
  | _ :: _, (_, _) :: _, h => ⟨h.1.wide hB, KeepL.wide hB h.2⟩
  | [], _ :: _, h => h.elim
  | _ :: _, [], h => h.elim
theorem KeepL.snoc {B : Nat → Prop} {w : World} {f : F9} {a : OwnF} {k : FT} (hf : FKeep B w f a k) : ∀ {fs : List F9} {r : List (OwnF × FT)}, KeepL B w fs r → KeepL B w (fs ++ [f]) (r ++ [(a, k)])
  | [], [], _ => ⟨hf, trivial⟩
  | _ :: _, (_, _) :: _, h => ⟨h.1, KeepL.snoc hf h.2⟩
  | [], _ :: _, h => h.elim
  | _ :: _, [], h => h.elim
theorem GKeep.next {B : Nat → Prop} {w w' : World} {f : F9} {a : OwnF} {k : FT} (h : GKeep B w f a k) (hw : ∀ g, B g → w'.heap[g]? = w.heap[g]?) : GKeep B w' f a k := ⟨h.1.next hw, h.2.next (fun g hg _ => hw g hg)⟩
theorem GKeep.wide {B B' : Nat → Prop} {w : World} {f : F9} {a : OwnF} {k : FT} (h : GKeep B w f a k) (hB : ∀ g, B g → B' g) : GKeep B' w f a k := ⟨h.1.wide hB, h.2.wide hB⟩
/-- a row of kids that was read since w: all of it in blocks of its own -/
structure KdS (w wr : World) (v : Value) (fs : List F9) (l : List (OwnF × FT)) : Prop where
  kp : ∃ B : Nat → Prop, (KeepL B wr fs l ∧ SepC wr (toFT l) B fs) ∧ ∀ b, B b → w.heap.size ≤ b ∧ b < wr.heap.size ∧ ¬ own v b
  row : RowF wr (own v) v fs
  gh : ∀ b, own v b → w.heap.size ≤ b
theorem KdS.like {w wr w' : World} {v : Value} {fs : List F9} {l : List (OwnF × FT)} (h : KdS w wr v fs l) (hw : ∀ b, b < wr.heap.size → w'.heap[b]? = wr.heap[b]?) (hs : wr.heap.size ≤ w'.heap.size) : KdS w w' v fs l := by
  obtain ⟨⟨B, ⟨k1, k2⟩, k3⟩, row, gh⟩ := h
  exact ⟨⟨B, ⟨KeepL.next (fun b hb => hw b (k3 b hb).2.1) k1, k2.next _ _ _ (fun g _ hg => hw g hg)⟩, fun b hb => ⟨(k3 b hb).1, by have := (k3 b hb).2.1; omega, (k3 b hb).2.2⟩⟩, Row.alike row (fun b hb => hw b (Row.lt row hb)), gh⟩
/-- a filter as it is read: it stands in blocks of its own; or a new fault -/
def FlPost (w : World) (R : Nat) (s : ByteArray) (o : Tq (OwnF × FT)) (e : Ending) (w' : World) : Prop :=
  Only (fun g => g = R) w w' ∧ match o with
  | .ok x q k => ∃ f : F9, e = .returned (.tuple #[.agg f.arr, .nilIface]) ∧ RdT w' R s q k ∧ GKeep (news w w') w' f x.1 x.2
  | .bad c a => ∃ (g q k : Nat) (f : F9), e = .returned (.tuple #[.agg f.arr, errV g]) ∧ w.heap.size ≤ g ∧ FtAt w' g c a ⟨#[]⟩ ∧ RdT w' R s q k
/-- kids as they are read -/
def KdPost (w : World) (R : Nat) (s : ByteArray) (o : Tq (List (OwnF × FT))) (e : Ending) (w' : World) : Prop :=
  Only (fun g => g = R) w w' ∧ match o with
  | .ok l q k => ∃ (g c : Nat) (fs : List F9), e = .returned (.tuple #[.slice (some ⟨g, 0, none⟩) fs.length c, .nilIface]) ∧ RdT w' R s q k ∧ KdS w w' (.slice (some ⟨g, 0, none⟩) fs.length c) fs l
  | .bad c a => ∃ (b : Option Addr) (n cp g q k : Nat), e = .returned (.tuple #[.slice b n cp, errV g]) ∧ w.heap.size ≤ g ∧ FtAt w' g c a ⟨#[]⟩ ∧ RdT w' R s q k
theorem row_one (w : World) (f : F9) : RowF (w.alloc (.cells f.arr 26)) (own (.slice (some ⟨w.heap.size, 0, none⟩) 1 1)) (.slice (some ⟨w.heap.size, 0, none⟩) 1 1) [f] := by
  refine ⟨?_, fun k hk => hk⟩
  have := World.ownsRow_lit (base := 0) (e := 26) (size := 9) w f.arr 1 (Nat.zero_le _) (by unfold maxLen; omega) (by simp [F9.arr])
  simpa [flatF] using this
set_option maxRecDepth 100000 in
set_option maxHeartbeats 8000000 in
theorem kid1_any (w : World) (R : Nat) (s : ByteArray) (d p k : Nat) (o : Tq (OwnF × FT)) (hr : RdT w R s p k)
    (hF : Calls Tryz.prog 22 #[.pointer (some ⟨R, 0, none⟩), .int .i64 d] w (FlPost w R s o)) :
    Calls Tryz.prog 62 #[.pointer (some ⟨R, 0, none⟩), .int .i64 d] w (KdPost w R s (o.bind fun x q k => .ok [x] q k)) := by
  have hrl := hr.lt
  clear hr
  cases o with
  | bad c a =>
    go_enter Tryz.func62, Tryz.ntmps62
    go_wp2_with fail
    go_at_call 22
    refine hF.mono ?_
    rintro _ w1 ⟨o1, g, q, k, f, rfl, h1, h2, r1⟩
    obtain ⟨k3, ka3, kn3, kc3, d3, v3, s3, ma3, mn3, mc3, e3, r3, b3⟩ := f
    simp only [F9.arr]
    have q1 : FlT (w1.alloc (.cells #[.int .i8 k3, .slice ka3 kn3 kc3, .string d3, .string v3, .string s3, .slice ma3 mn3 mc3, .string e3, .string r3, .bool b3] 26)) w1.heap.size ⟨k3, ka3, kn3, kc3, d3, v3, s3, ma3, mn3, mc3, e3, r3, b3⟩ := heap_alloc_new _ _
    have x1 := (Ext.refl w1).alloc (.cells #[.int .i8 k3, .slice ka3 kn3 kc3, .string d3, .string v3, .string s3, .slice ma3 mn3 mc3, .string e3, .string r3, .bool b3] 26)
    go_upto_region 2 with fail
    generalize World.alloc w1 _ = w2 at q1 x1 ⊢
    generalize w1.heap.size = HS at q1 ⊢
    obtain ⟨c0, c1, c2, c3, c4, c5, c6, c7, c8, -⟩ := q1.cells
    simp only at c0 c1 c2 c3 c4 c5 c6 c7 c8
    unfold errV
    go_wp2
    go_ret2
    have y := x1.alloc (.cells #[.int .i8 k3, .slice ka3 kn3 kc3, .string d3, .string v3, .string s3, .slice ma3 mn3 mc3, .string e3, .string r3, .bool b3] 26)
    exact ⟨o1.ext y, _, _, _, g, q, k, rfl, h1, h2.ext y, r1.ext y⟩
  | ok x q k2 =>
    go_enter Tryz.func62, Tryz.ntmps62
    go_wp2_with fail
    go_at_call 22
    refine hF.mono ?_
    rintro _ w1 ⟨o1, f, rfl, r1, hk⟩
    have ho := row_one (w1.alloc (.cells f.arr 26)) f
    have hsz : (w1.alloc (.cells f.arr 26)).heap.size = w1.heap.size + 1 := World.size_alloc _ _
    have y := ((Ext.refl w1).alloc (.cells f.arr 26)).alloc (.cells f.arr 26)
    have hkk : KdS w ((w1.alloc (.cells f.arr 26)).alloc (.cells f.arr 26)) (.slice (some ⟨(w1.alloc (.cells f.arr 26)).heap.size, 0, none⟩) 1 1) [f] [x] := by
      have hs1 := o1.size
      have hys := y.size
      refine ⟨⟨news w w1, ⟨⟨(hk.next (fun b hb => y.block b hb.2)).1, trivial⟩, SepC.cons (U2 := fun _ => False) (hk.next (fun b hb => y.block b hb.2)).2 (fun g hg => ⟨hg, id⟩) (fun g hg => hg.elim) rfl⟩, fun b hb => ⟨hb.1, Nat.lt_of_lt_of_le hb.2 hys, fun e => ?_⟩⟩, ho, fun b e => ?_⟩
      · have : b = w1.heap.size + 1 := by rw [hsz] at e; simpa [own, Value.ownBlock, eq_comm] using e
        have := hb.2
        omega
      · have : b = w1.heap.size + 1 := by rw [hsz] at e; simpa [own, Value.ownBlock, eq_comm] using e
        omega
    have hz : Hid (KdPost w R s (.ok [x] q k2) (.returned (.tuple #[.slice (some ⟨(w1.alloc (.cells f.arr 26)).heap.size, 0, none⟩) 1 1, .nilIface])) ((w1.alloc (.cells f.arr 26)).alloc (.cells f.arr 26))) := ⟨o1.ext y, _, 1, [f], rfl, r1.ext y, hkk⟩
    clear hkk y ho hk r1
    obtain ⟨k3, ka3, kn3, kc3, d3, v3, s3, ma3, mn3, mc3, e3, r3, b3⟩ := f
    simp only [F9.arr] at hz hsz ⊢
    have q1 : FlT (w1.alloc (.cells #[.int .i8 k3, .slice ka3 kn3 kc3, .string d3, .string v3, .string s3, .slice ma3 mn3 mc3, .string e3, .string r3, .bool b3] 26)) w1.heap.size ⟨k3, ka3, kn3, kc3, d3, v3, s3, ma3, mn3, mc3, e3, r3, b3⟩ := heap_alloc_new _ _
    go_upto_region 2 with fail
    rw [hsz] at hz
    obtain ⟨w2, hw2⟩ : ∃ w2, w2 = w1.alloc (.cells #[.int .i8 k3, .slice ka3 kn3 kc3, .string d3, .string v3, .string s3, .slice ma3 mn3 mc3, .string e3, .string r3, .bool b3] 26) := ⟨_, rfl⟩
    rw [← hw2] at q1 hz hsz ⊢
    rw [← hsz] at hz
    clear hw2 hsz
    generalize w1.heap.size = HS at q1 ⊢
    obtain ⟨c0, c1, c2, c3, c4, c5, c6, c7, c8, -⟩ := q1.cells
    simp only at c0 c1 c2 c3 c4 c5 c6 c7 c8
    go_wp2
    go_ret2
    exact hz.out
end Go.Proofs.YtfkepclgadeeeaaGreatDoor

/-
  The program's reader of any text: kids.
-/
namespace Go.Proofs.YtfkepclgadeeeaaGreatDoor
open Go.RowKit Go.Shelf

/-- what stands between two kids: a row of those that were read, or a fault -/
def KsS (w wr : World) (R : Nat) (s : ByteArray) (rec : Nat → Nat → Tq (OwnF × FT)) (o : Tq (List (OwnF × FT))) (n : Nat) (v6 v7 : Value) : Prop :=
  (∃ (g c : Nat) (fs : List F9) (l : List (OwnF × FT)) (q k : Nat), v6 = .slice (some ⟨g, 0, none⟩) fs.length c ∧ v7 = .nilIface ∧ RdT wr R s q k ∧ KdS w wr (.slice (some ⟨g, 0, none⟩) fs.length c) fs l ∧ o = ksGo rec s n l q k ∧ q ≤ s.size ∧ s.size - q < n ∧ k ≤ 65536 ∧ l.length ≤ q) ∨
  (∃ (c a : Nat) (b : Option Addr) (m cp g q k : Nat), o = .bad c a ∧ v6 = .slice b m cp ∧ v7 = errV g ∧ w.heap.size ≤ g ∧ FtAt wr g c a ⟨#[]⟩ ∧ RdT wr R s q k)
/-- a kid was read, boxed and appended -/
theorem KdS.push {w wr w5 w6 : World} {v : Value} {g6 c6 : Nat} {fs : List F9} {l : List (OwnF × FT)} {x : OwnF × FT} {f5 : F9} {Z R : Nat} (h : KdS w wr v fs l) (hR : R < w.heap.size)
    (y : Only (fun b => b = R ∨ wr.heap.size ≤ b) wr w5) (hZ : wr.heap.size ≤ Z + 1) (hk : GKeep (fun b => Z < b ∧ b < w5.heap.size) w5 f5 x.1 x.2)
    (r6 : RowF w6 (Up (own v) w5.heap.size) (.slice (some ⟨g6, 0, none⟩) (fs.length + 1) c6) (fs ++ [f5])) (o6 : Only (own v) w5 w6) (hw : w.heap.size ≤ wr.heap.size) :
    KdS w w6 (.slice (some ⟨g6, 0, none⟩) (fs ++ [f5]).length c6) (fs ++ [f5]) (l ++ [x]) := by
  obtain ⟨B, ⟨k1, ksep⟩, k2⟩ := h.kp
  have hlt : ∀ b, own v b → b < wr.heap.size := fun b hb => Row.lt h.row hb
  have hys := y.size
  have h6s := o6.size
  have hg6 : own v g6 ∨ w5.heap.size ≤ g6 := r6.2 g6 (by simp [Value.ownBlock])
  have hl1 : (fs ++ [f5]).length = fs.length + 1 := by simp
  have hown : ∀ b, own (.slice (some ⟨g6, 0, none⟩) (fs ++ [f5]).length c6) b → b = g6 := fun b hb => by simpa [own, Value.ownBlock, eq_comm] using hb
  have hnR : ∀ b, w.heap.size ≤ b → ¬ b = R := fun b hb e => by omega
  refine ⟨⟨fun b => B b ∨ (Z < b ∧ b < w5.heap.size), ⟨?_, ?_⟩, ?_⟩, ?_, fun b hb => ?_⟩
  rotate_left
  · rw [toFT_snoc]
    have h5 := ksep.next (w' := w6) _ _ _ (fun b hb _ => by
      have h1 := k2 b hb
      exact (o6.block b (by omega) h1.2.2).trans (y.block b h1.2.1 (fun e => e.elim (hnR b h1.1) (fun e => by omega))))
    refine SepC.snoc (V := fun b => Z < b ∧ b < w5.heap.size) ?_ _ _ _ h5 (fun b hb hv => by have := (k2 b hb).2.1; have := hv.1; omega)
    exact hk.2.next (fun b hb _ => o6.block b hb.2 (fun e => by have := hlt b e; have := hb.1; omega))
  rotate_right
  · refine KeepL.snoc ((hk.1.next (fun b hb => o6.block b hb.2 (fun e => by have := hlt b e; omega))).wide (fun b hb => .inr hb)) (KeepL.wide (fun b hb => .inl hb) (k1.next (fun b hb => ?_)))
    have h1 := k2 b hb
    exact (o6.block b (by omega) h1.2.2).trans (y.block b h1.2.1 (fun e => e.elim (hnR b h1.1) (fun e => by omega)))
  · intro b hb
    rcases hb with hb | hb
    · have h1 := k2 b hb
      refine ⟨h1.1, by omega, fun e => ?_⟩
      obtain rfl := hown b e
      rcases hg6 with e | e
      · exact h1.2.2 e
      · omega
    · refine ⟨by omega, by omega, fun e => ?_⟩
      obtain rfl := hown b e
      rcases hg6 with e | e
      · have := hlt _ e; omega
      · omega
  · rw [hl1]
    exact ⟨by have := r6.1; rw [← hl1] at this ⊢; exact this, fun b hb => hb⟩
  · obtain rfl := hown b hb
    rcases hg6 with e | e
    · exact h.gh _ e
    · omega
end Go.Proofs.YtfkepclgadeeeaaGreatDoor
