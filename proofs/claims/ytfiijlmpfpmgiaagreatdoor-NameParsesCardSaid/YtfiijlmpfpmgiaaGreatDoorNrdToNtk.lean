/-
  A reader of names' texts: the byte at a place, what stands behind a value, runs and escapes.
-/
import Derived.Test.YtfiijlmpfpmgiaaGreatDoorNplToNword
import Derived.Test.YtfiijlmpfpmgiaaGreatDoorStwinToXpush
import Derived.Deep.QuietTactic
import Derived.Deep.DeepCutAuto
import Derived.Deep.RegionWith
namespace Go.Proofs.YtfiijlmpfpmgiaaGreatDoor
open Go.RowKit

/-- a reader in memory -/
def RdS (w : World) (R : Nat) (s : ByteArray) (p : Nat) (wd : ByteArray) (fm : Nat) (pv qv : Value) : Prop :=
  w.heap[R]? = some (.cells #[.string s, .int .i64 p, .string wd, .int .i64 fm, pv, qv] 52 (0, 0))
theorem RdS.cells {w : World} {R : Nat} {s : ByteArray} {p : Nat} {wd : ByteArray} {fm : Nat} {pv qv : Value} (h : RdS w R s p wd fm pv qv) :
    w.cell? ⟨R, 0, none⟩ = some (.string s) ∧ w.cell? ⟨R, 1, none⟩ = some (.int .i64 p) ∧ w.cell? ⟨R, 2, none⟩ = some (.string wd) ∧ w.cell? ⟨R, 3, none⟩ = some (.int .i64 fm) ∧ w.cell? ⟨R, 4, none⟩ = some pv ∧ w.cell? ⟨R, 5, none⟩ = some qv ∧ (∀ j, w.frozen? ⟨R, j, none⟩ = false) :=
  ⟨cell_of_row _ _ 0 _ _ _ h, cell_of_row _ _ 1 _ _ _ h, cell_of_row _ _ 2 _ _ _ h, cell_of_row _ _ 3 _ _ _ h, cell_of_row _ _ 4 _ _ _ h, cell_of_row _ _ 5 _ _ _ h, fun j => by simp [World.frozen?, show w.heap[R]? = _ from h]⟩
theorem bAt_in (s : ByteArray) (k : Nat) (h : k < s.size) : bAt s k = (s[k].toNat : Int) := by unfold bAt; rw [dif_pos h]
theorem bAt_out (s : ByteArray) (k : Nat) (h : ¬ k < s.size) : bAt s k = -1 := by unfold bAt; rw [dif_neg h]

set_option maxRecDepth 100000 in
theorem byteAt_any (w : World) (R : Nat) (s : ByteArray) (k : Nat) (h0 : w.cell? ⟨R, 0, none⟩ = some (.string s)) :
    Calls Tryz.prog 30 #[.pointer (some ⟨R, 0, none⟩), .int .i64 k] w fun e w' => e = .returned (.int .i64 (bAt s k)) ∧ w' = w := by
  by_cases hlt : k < s.size
  · have hge : ¬ (s.size : Int) ≤ (k : Int) := by omega
    have hv : Hid (bAt s k = (s[k].toNat : Int)) := bAt_in s k hlt
    have hb := s[k].toNat_lt
    go_enter Tryz.func30, Tryz.ntmps30
    go_wp2
    go_ret
    exact ⟨ret_i hv.out.symm, rfl⟩
  · have hge : (s.size : Int) ≤ (k : Int) := by omega
    have hv : Hid (bAt s k = -1) := bAt_out s k hlt
    go_enter Tryz.func30, Tryz.ntmps30
    go_wp2
    go_ret
    exact ⟨ret_i hv.out.symm, rfl⟩

set_option maxRecDepth 100000 in
theorem isBehind_any (w : World) (R : Nat) (s : ByteArray) (k : Nat) (h0 : w.cell? ⟨R, 0, none⟩ = some (.string s)) :
    Calls Tryz.prog 31 #[.pointer (some ⟨R, 0, none⟩), .int .i64 k] w fun e w' => e = .returned (.bool (behB s k)) ∧ w' = w := by
  have hb := byteAt_any w R s k h0
  have hu : behB s k = (bAt s k == -1 || bAt s k == 44 || bAt s k == 43) := rfl
  rw [hu]
  clear hu
  generalize bAt s k = z at *
  rcases (show z = -1 ∨ z = 44 ∨ (¬ z = -1 ∧ ¬ z = 44) by omega) with rfl | rfl | ⟨h1, h2⟩
  · go_enter Tryz.func31, Tryz.ntmps31
    go_wp2_with (go_at_call 30; refine hb.mono ?_; rintro _ _ ⟨rfl, rfl⟩)
    go_ret
    exact ⟨rfl, rfl⟩
  · go_enter Tryz.func31, Tryz.ntmps31
    go_wp2_with (go_at_call 30; refine hb.mono ?_; rintro _ _ ⟨rfl, rfl⟩)
    go_ret
    exact ⟨rfl, rfl⟩
  · have b1 : (z == -1) = false := by simpa using h1
    have b2 : (z == 44) = false := by simpa using h2
    go_enter Tryz.func31, Tryz.ntmps31
    go_wp2_with (go_at_call 30; refine hb.mono ?_; rintro _ _ ⟨rfl, rfl⟩)
    go_ret
    exact ⟨ret_b (by rw [b1, b2]; simp), rfl⟩

/-- how far a run goes, at this text (shown for texts of bytes below 128) -/
def RunAt (t : ByteArray) : Prop := ∀ w : World, Calls Tryz.prog 49 #[.string t] w fun e w' => e = .returned (.int .i64 (runN (byt t) : Int)) ∧ Ext w w'
set_option maxRecDepth 100000 in
theorem runSize_ascii (t : ByteArray) (hs : t.size < 4294967281) (ha : ∀ b ∈ byt t, b.toNat < 128) : RunAt t := by
  intro w
  have hi := nIndexAny w t ⟨#[34, 43, 44, 59, 60, 62, 92, 0, 32]⟩ hs (by decide) (fun j b hb => ha b (List.mem_of_getElem? hb)) (by
    intro j b hb
    have : ∀ x ∈ apartL, x.toNat < 128 := by decide
    exact this b (List.mem_of_getElem? hb))
  have hv : Hid (runN (byt t) = if Lib.indexAny t.data.toList apartL < 0 then t.size else (Lib.indexAny t.data.toList apartL).toNat) := by
    show runN (byt t) = _
    unfold runN; rw [byt_length]; rfl
  have hg := Lib.indexAny_ge apartL t.data.toList
  have hi2 : Calls Tryz.prog 74 #[.string t, .string ⟨#[34, 43, 44, 59, 60, 62, 92, 0, 32]⟩] w fun e w' => e = .returned (.int .i64 (Lib.indexAny t.data.toList apartL)) ∧ Ext w w' := hi
  clear hi
  generalize Lib.indexAny t.data.toList apartL = z at *
  by_cases hz : z < 0
  · have hz' : ¬ 0 ≤ z := by omega
    go_enter Tryz.func49, Tryz.ntmps49
    go_wp2_with (go_at_call 74; refine hi2.mono ?_; rintro _ w1 ⟨rfl, x1⟩)
    go_ret
    exact ⟨ret_i (by rw [hv.out, if_pos hz]), x1⟩
  · have hz' : 0 ≤ z := by omega
    go_enter Tryz.func49, Tryz.ntmps49
    go_wp2_with (go_at_call 74; refine hi2.mono ?_; rintro _ w1 ⟨rfl, x1⟩)
    go_ret
    exact ⟨ret_i (by rw [hv.out, if_neg (by omega)]; omega), x1⟩

theorem ret_si {a b : ByteArray} {x y : Int} (h : a = b) (hx : x = y) : Ending.returned (.tuple #[.string a, .int .i64 x]) = .returned (.tuple #[.string b, .int .i64 y]) := by rw [h, hx]
theorem Fr.toExt {w w' : World} (h : Fr w.heap.size w w') : Ext w w' := h.1
theorem Tab.ext {w w' : World} {g off cap : Nat} (h : Tab w g off cap) (x : Ext w w') : Tab w' g off cap := Tab.below h x (Nat.le_refl _)

set_option maxRecDepth 100000 in
set_option maxHeartbeats 2000000 in
theorem escape_any (w : World) (g off cap : Nat) (ht : Tab w g off cap) (t : ByteArray) (hs : t.size ≤ 140737488355328) :
    Calls Tryz.prog 48 #[.string t] w fun e w' => e = .returned (.tuple #[.string (str (escP (byt t)).1), .int .i64 ((escP (byt t)).2 : Int)]) ∧ Ext w w' := by
  have hl : (byt t).length = t.size := byt_length t
  by_cases h1 : 1 < t.size
  · have h1i : (1 : Int) < (t.size : Int) := by omega
    have hc : (byt t).getD 1 0 = t[1] := by rw [List.getD_eq_getElem?_getD, byt_get t 1 h1]; rfl
    have hix := fun w => nIndexByte w ⟨#[34, 43, 44, 59, 60, 62, 92, 61, 35, 32]⟩ (t[1].toNat : Int)
    have hcc : ((t[1].toNat : Int).toNat.toUInt8) = t[1] := by simp
    rw [hcc] at hix
    have hix2 : ∀ w, Calls Tryz.prog 59 #[.string ⟨#[34, 43, 44, 59, 60, 62, 92, 61, 35, 32]⟩, .int .u8 t[1].toNat] w fun e w' => e = .returned (.int .i64 (Lib.indexByte signsL t[1])) ∧ w' = w := hix
    clear hix
    by_cases hz : 0 ≤ Lib.indexByte signsL t[1]
    · have hv : Hid (escP (byt t) = ([t[1]], 2)) := by show escP (byt t) = _; unfold escP; rw [hc, if_pos ⟨by rw [hl]; exact h1, hz⟩]
      generalize Lib.indexByte signsL t[1] = z at *
      have h12 : (2 : Int) ≤ (t.size : Int) := by omega
      have hex : Hid (t.extract 1 2 = str [t[1]]) := by
        show t.extract 1 2 = _
        rw [← str_byt (t.extract 1 2), byt_extract, drop_one t 1 h1]; rfl
      go_enter Tryz.func48, Tryz.ntmps48
      go_wp2_with (go_at_call 59; refine (hix2 _).mono ?_; rintro _ _ ⟨rfl, rfl⟩)
      go_ret2
      exact ⟨ret_si (by rw [hv.out]; exact hex.out) (by rw [hv.out]; rfl), Ext.refl _⟩
    · have hz' : Lib.indexByte signsL t[1] < 0 := by omega
      have hv : Hid (escP (byt t) = if exE (unescL ((byt t).take 3)) = 0 then (exV (unescL ((byt t).take 3)), ((byt t).take 3).length) else ([], 0)) := by show escP (byt t) = _; unfold escP; rw [hc, if_neg (fun h => hz h.2)]
      generalize Lib.indexByte signsL t[1] = z at *
      have hd : byt (t.extract 0 (min 3 (t.size : Int)).toNat) = (byt t).take 3 := by
        rw [byt_extract, List.drop_zero, Nat.sub_zero]
        by_cases h3 : 3 ≤ t.size
        · rw [show (min 3 (t.size : Int)).toNat = 3 by omega]
        · rw [show (min 3 (t.size : Int)).toNat = t.size by omega, List.take_of_length_le (by rw [hl]; exact Nat.le_refl _), List.take_of_length_le (by rw [hl]; omega)]
      have hm0 : (0 : Int) ≤ min 3 (t.size : Int) := by omega
      have hm1 : min 3 (t.size : Int) ≤ (t.size : Int) := by omega
      have hU := Unescape_any w g off cap ht (t.extract 0 (min 3 (t.size : Int)).toNat) (by rw [ByteArray.size_extract]; omega)
      have hsz : Hid ((t.extract 0 (min 3 (t.size : Int)).toNat).size = ((byt t).take 3).length) := by show _ = _; rw [← byt_length, hd]
      rw [← hd] at hv
      clear hd
      generalize hq : unescL (byt (t.extract 0 (min 3 (t.size : Int)).toNat)) = u at *
      clear hq
      by_cases hE : exE u = 0
      · have hEi : (exE u : Int) = 0 := by omega
        have hv2 : Hid (escP (byt t) = (exV u, (byt (t.extract 0 (min 3 (t.size : Int)).toNat)).length)) := by show _ = _; rw [hv.out, if_pos hE]
        clear hE hv
        go_enter Tryz.func48, Tryz.ntmps48
        go_wp2_with (first | (go_at_call 59; refine (hix2 _).mono ?_; rintro _ _ ⟨rfl, rfl⟩) | (go_at_call 73; refine hU.mono ?_; rintro _ w2 ⟨rfl, x2⟩))
        go_ret2
        exact ⟨ret_si (by rw [hv2.out]) (by rw [hv2.out]; show _ = ((byt _).length : Int); rw [byt_length, ByteArray.size_extract]; omega), x2.1⟩
      · have hEi : ¬ (exE u : Int) = 0 := by omega
        have hv2 : Hid (escP (byt t) = ([], 0)) := by show _ = _; rw [hv.out, if_neg hE]
        clear hE hv
        go_enter Tryz.func48, Tryz.ntmps48
        go_wp2_with (first | (go_at_call 59; refine (hix2 _).mono ?_; rintro _ _ ⟨rfl, rfl⟩) | (go_at_call 73; refine hU.mono ?_; rintro _ w2 ⟨rfl, x2⟩))
        go_ret2
        exact ⟨ret_si (by rw [hv2.out]; rfl) (by rw [hv2.out]; rfl), x2.1⟩
  · have h1i : ¬ (1 : Int) < (t.size : Int) := by omega
    have hv : Hid (escP (byt t) = if exE (unescL ((byt t).take 3)) = 0 then (exV (unescL ((byt t).take 3)), ((byt t).take 3).length) else ([], 0)) := by show escP (byt t) = _; unfold escP; rw [if_neg (fun h => h1 (by rw [← hl]; exact h.1))]
    have hd : byt (t.extract 0 (min 3 (t.size : Int)).toNat) = (byt t).take 3 := by
      rw [byt_extract, List.drop_zero, Nat.sub_zero]
      by_cases h3 : 3 ≤ t.size
      · rw [show (min 3 (t.size : Int)).toNat = 3 by omega]
      · rw [show (min 3 (t.size : Int)).toNat = t.size by omega, List.take_of_length_le (by rw [hl]; exact Nat.le_refl _), List.take_of_length_le (by rw [hl]; omega)]
    have hm0 : (0 : Int) ≤ min 3 (t.size : Int) := by omega
    have hm1 : min 3 (t.size : Int) ≤ (t.size : Int) := by omega
    have hU := Unescape_any w g off cap ht (t.extract 0 (min 3 (t.size : Int)).toNat) (by rw [ByteArray.size_extract]; omega)
    have hsz : Hid ((t.extract 0 (min 3 (t.size : Int)).toNat).size = ((byt t).take 3).length) := by show _ = _; rw [← byt_length, hd]
    rw [← hd] at hv
    clear hd
    generalize hq : unescL (byt (t.extract 0 (min 3 (t.size : Int)).toNat)) = u at *
    clear hq
    by_cases hE : exE u = 0
    · have hEi : (exE u : Int) = 0 := by omega
      have hv2 : Hid (escP (byt t) = (exV u, (byt (t.extract 0 (min 3 (t.size : Int)).toNat)).length)) := by show _ = _; rw [hv.out, if_pos hE]
      clear hE hv
      go_enter Tryz.func48, Tryz.ntmps48
      go_wp2_with (go_at_call 73; refine hU.mono ?_; rintro _ w2 ⟨rfl, x2⟩)
      go_ret2
      exact ⟨ret_si (by rw [hv2.out]) (by rw [hv2.out]; show _ = ((byt _).length : Int); rw [byt_length, ByteArray.size_extract]; omega), x2.1⟩
    · have hEi : ¬ (exE u : Int) = 0 := by omega
      have hv2 : Hid (escP (byt t) = ([], 0)) := by show _ = _; rw [hv.out, if_neg hE]
      clear hE hv
      go_enter Tryz.func48, Tryz.ntmps48
      go_wp2_with (go_at_call 73; refine hU.mono ?_; rintro _ w2 ⟨rfl, x2⟩)
      go_ret2
      exact ⟨ret_si (by rw [hv2.out]; rfl) (by rw [hv2.out]; rfl), x2.1⟩
end Go.Proofs.YtfiijlmpfpmgiaaGreatDoor

/-
  A reader takes a type's word.
-/
namespace Go.Proofs.YtfiijlmpfpmgiaaGreatDoor
open Go.RowKit

theorem wGo_len : ∀ (l : List UInt8) (st : Nat) (d : Bool), (wGo st d l).1 ≤ l.length
  | [], _, _ => by rw [wGo]; exact Nat.le_refl _
  | b :: t, st, d => by
    rw [wGo]
    split
    · exact Nat.zero_le _
    · rename_i st' d' _
      have := wGo_len t st' d'
      simp only [List.length_cons]; omega
theorem ne61 {c : UInt8} (h : c ≠ 61) : ¬ (c.toNat : Int) = 61 := by
  intro e; apply h; apply UInt8.toNat_inj.1; show c.toNat = 61; omega
section
variable {w : World} {R : Nat} {s : ByteArray} {p : Nat} {wd : ByteArray} {fm : Nat} {pv qv : Value}
theorem RdS.set1 (h : RdS w R s p wd fm pv qv) (q : Nat) : RdS (w.setCell ⟨R, 1, none⟩ (.int .i64 q)) R s q wd fm pv qv := heap_setCell_at w R 1 _ _ _ _ h
theorem RdS.set2 (h : RdS w R s p wd fm pv qv) (q : ByteArray) : RdS (w.setCell ⟨R, 2, none⟩ (.string q)) R s p q fm pv qv := heap_setCell_at w R 2 _ _ _ _ h
theorem RdS.set3 (h : RdS w R s p wd fm pv qv) (q : Nat) : RdS (w.setCell ⟨R, 3, none⟩ (.int .i64 q)) R s p wd q pv qv := heap_setCell_at w R 3 _ _ _ _ h
theorem RdS.set4 (h : RdS w R s p wd fm pv qv) (q : Value) : RdS (w.setCell ⟨R, 4, none⟩ q) R s p wd fm q qv := heap_setCell_at w R 4 _ _ _ _ h
theorem RdS.set5 (h : RdS w R s p wd fm pv qv) (q : Value) : RdS (w.setCell ⟨R, 5, none⟩ q) R s p wd fm pv q := heap_setCell_at w R 5 _ _ _ _ h
theorem RdS.drewN (h : RdS w R s p wd fm pv qv) (n : Nat) : RdS (w.drewN n) R s p wd fm pv qv := h
theorem RdS.ext {w' : World} (h : RdS w R s p wd fm pv qv) (x : Ext w w') : RdS w' R s p wd fm pv qv := (x.block R (Array.getElem?_eq_some_iff.1 h).1).trans h
end
theorem setOnly (w : World) (g o : Nat) (u : Value) : Only (fun k => k = g) w (w.setCell ⟨g, o, none⟩ u) := (Only.refl _ w).setCell (S := fun k => k = g) (p := ⟨g, o, none⟩) (Or.inl rfl) u
theorem Only.drewN {S : Nat → Prop} {a w : World} (h : Only S a w) (n : Nat) : Only S a (w.drewN n) := ⟨h.os, h.tape, h.output, h.size, h.block⟩

set_option maxRecDepth 100000 in
set_option maxHeartbeats 4000000 in
theorem takeType_any (w : World) (R : Nat) (s : ByteArray) (r : RS) (pv qv : Value) (hr : RdS w R s r.pos r.word r.frm pv qv) (hp : r.pos ≤ s.size) (hs : s.size ≤ 140737488355328) :
    Calls Tryz.prog 29 #[.pointer (some ⟨R, 0, none⟩)] w fun e w' => e = .returned (.int .i64 (ttP s r).1) ∧ RdS w' R s (ttP s r).2.pos (ttP s r).2.word (ttP s r).2.frm pv qv ∧ Only (fun k => k = R) w w' := by
  have hws := wordSize_any (s.extract r.pos s.size) (by rw [ByteArray.size_extract]; omega) w
  rw [byt_from] at hws
  have hlen := wGo_len ((byt s).drop r.pos) 0 false
  rw [List.length_drop, byt_length] at hlen
  have hu : ttP s r = if ttN s r.pos = s.size then (5, { r with pos := ttN s r.pos }) else if (wGo 0 false ((byt s).drop r.pos)).2 = false ∨ bAt s (ttN s r.pos) ≠ 61 then (50, { r with pos := ttN s r.pos })
      else (0, { r with pos := ttN s r.pos + 1, word := s.extract r.pos (ttN s r.pos), frm := ttN s r.pos + 1 }) := rfl
  have hn : ttN s r.pos = r.pos + (wGo 0 false ((byt s).drop r.pos)).1 := rfl
  generalize wGo 0 false ((byt s).drop r.pos) = g at *
  generalize ttP s r = o at *
  generalize ttN s r.pos = q at *
  obtain ⟨n, whole⟩ := g
  obtain ⟨p, wd, fm, prs, pts⟩ := r
  simp only at *
  have hpi : (p : Int) ≤ (s.size : Int) := by omega
  have hqi : (p : Int) + (n : Int) = (q : Int) := by omega
  have hq : q ≤ s.size := by omega
  have huh : Hid (o = if q = s.size then (5, { pos := q, word := wd, frm := fm, prs := prs, pts := pts }) else if whole = false ∨ bAt s q ≠ 61 then (50, { pos := q, word := wd, frm := fm, prs := prs, pts := pts }) else (0, { pos := q + 1, word := s.extract p q, frm := q + 1, prs := prs, pts := pts })) := hu
  have H1 := hr.set1 q
  have hrh : Hid (RdS w R s p wd fm pv qv) := hr
  obtain ⟨c0, c1, c2, c3, c4, c5, fz⟩ := hr.cells
  clear hr hu hn hlen
  go_enter Tryz.func29, Tryz.ntmps29
  go_wp2_with (go_at_call 47; refine hws.mono ?_; rintro _ _ ⟨rfl, rfl⟩)
  generalize hw1 : World.setCell _ ⟨R, 1, none⟩ (.int .i64 (q : Int)) = w1 at H1 ⊢
  have O1 : Hid (Only (fun k => k = R) _ w1) := hw1 ▸ setOnly _ R 1 _
  clear hw1 c0 c1 c2 c3 c4 c5 fz
  obtain ⟨c0, c1, c2, c3, c4, c5, fz⟩ := H1.cells
  by_cases hqs : q = s.size
  · have hqsi : (q : Int) = (s.size : Int) := by omega
    have hv : Hid (o = (5, { pos := q, word := wd, frm := fm, prs := prs, pts := pts })) := by show o = _; rw [huh.out, if_pos hqs]
    have H1h : Hid (RdS w1 R s q wd fm pv qv) := H1
    clear hqs huh H1
    go_quiet (fail)
    go_wp2
    go_ret
    rw [hv.out]
    exact ⟨rfl, H1h.out, O1.out.drewN _⟩
  · have hqsi : ¬ (q : Int) = (s.size : Int) := by omega
    have hlt : q < s.size := by omega
    have hlti : (q : Int) < (s.size : Int) := by omega
    have H1h : Hid (RdS w1 R s q wd fm pv qv) := H1
    clear H1
    cases whole with
    | false =>
      have hv : Hid (o = (50, { pos := q, word := wd, frm := fm, prs := prs, pts := pts })) := by show o = _; rw [huh.out, if_neg hqs, if_pos (.inl rfl)]
      clear hqs huh
      go_quiet (fail)
      go_wp2
      go_quiet (fail)
      go_wp2
      go_ret
      rw [hv.out]
      exact ⟨rfl, H1h.out, (O1.out.drewN _).drewN _⟩
    | true =>
      by_cases he : s[q] = 61
      · have hei : (s[q].toNat : Int) = 61 := by rw [he]; rfl
        have hv : Hid (o = (0, { pos := q + 1, word := s.extract p q, frm := q + 1, prs := prs, pts := pts })) := by show o = _; rw [huh.out, if_neg hqs, if_neg]; rintro (h | h); cases h; exact h (by rw [bAt_in s q hlt, hei])
        have hpq : (p : Int) ≤ (q : Int) := by omega
        obtain ⟨q1, hq1h⟩ : ∃ q1, Hid (q1 = q + 1) := ⟨_, rfl⟩
        have hq1 : (q : Int) + 1 = (q1 : Int) := by have := hq1h.out; omega
        clear hqs huh he
        go_quiet (fail)
        go_wp2
        go_quiet (fail)
        go_wp2
        generalize hw2 : World.drewN (World.drewN w1 _) _ = w2
        have H2 : RdS w2 R s q wd fm pv qv := hw2 ▸ H1h.out
        have O2 : Hid (Only (fun k => k = R) _ w2) := hw2 ▸ (O1.out.drewN _).drewN _
        have H3 := H2.set2 (s.extract p q)
        clear hw2 c0 c1 c2 c3 c4 c5 fz O1 H1h
        obtain ⟨c0, c1, c2, c3, c4, c5, fz⟩ := H2.cells
        have hmix : Tryz.prog.follows Departure.mixedOrders = true := by kernel_rfl
        go_region_o
        generalize hw3 : World.drew (World.setCell w2 _ _) = w3
        have H3' : RdS w3 R s q (s.extract p q) fm pv qv := hw3 ▸ H3
        have O3 : Hid (Only (fun k => k = R) _ w3) := hw3 ▸ (O2.out.then (setOnly w2 R 2 _)).drew
        clear hw3 H3 H2 c0 c1 c2 c3 c4 c5 fz O2
        obtain ⟨c0, c1, c2, c3, c4, c5, fz⟩ := H3'.cells
        have H4 : Hid (RdS ((w3.setCell ⟨R, 1, none⟩ (.int .i64 (q1 : Int))).setCell ⟨R, 3, none⟩ (.int .i64 (q1 : Int))) R s q1 (s.extract p q) q1 pv qv) := (H3'.set1 q1).set3 q1
        clear H3'
        go_wp2
        go_ret
        rw [hv.out, ← hq1h.out]
        exact ⟨rfl, H4.out, (O3.out.then (setOnly w3 R 1 _)).then (setOnly _ R 3 _)⟩
      · have hei : ¬ (s[q].toNat : Int) = 61 := ne61 he
        have hv : Hid (o = (50, { pos := q, word := wd, frm := fm, prs := prs, pts := pts })) := by show o = _; rw [huh.out, if_neg hqs, if_pos]; right; rw [bAt_in s q hlt]; exact hei
        clear hqs huh he
        go_quiet (fail)
        go_wp2
        go_quiet (fail)
        go_wp2
        go_ret
        rw [hv.out]
        exact ⟨rfl, H1h.out, (O1.out.drewN _).drewN _⟩
end Go.Proofs.YtfiijlmpfpmgiaaGreatDoor
