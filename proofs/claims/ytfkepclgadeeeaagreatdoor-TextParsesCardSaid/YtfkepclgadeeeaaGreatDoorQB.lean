/-
  package text's letters and digits; a reader in memory; the byte that comes next.
-/
import Derived.Test.YtfkepclgadeeeaaGreatDoorTp
import Derived.Test.YtfkepclgadeeeaaGreatDoorQA
import Derived.Deep.QuietTactic
import Derived.BigQuiet
import Derived.Deep.RegionWith
import Derived.Deep.LoopGhost
namespace Go.Proofs.YtfkepclgadeeeaaGreatDoor
open Go.RowKit

set_option maxHeartbeats 400000 in
theorem tLet_any (b : UInt8) (w : World) : Calls Tryz.prog 69 #[.int .u8 b.toNat] w fun e w' => e = .returned (.bool (tLet b)) ∧ w' = w := by
  have hb := b.toNat_lt
  have hu : tLet b = ((decide (97 ≤ b.toNat) && decide (b.toNat ≤ 122)) || (decide (65 ≤ b.toNat) && decide (b.toNat ≤ 90))) := rfl
  rw [hu]; clear hu
  generalize b.toNat = c at *
  rcases (show c < 65 ∨ (65 ≤ c ∧ c ≤ 90) ∨ (91 ≤ c ∧ c < 97) ∨ (97 ≤ c ∧ c ≤ 122) ∨ 123 ≤ c by omega) with h | ⟨h1, h2⟩ | ⟨h1, h2⟩ | ⟨h1, h2⟩ | h
  all_goals
    go_enter Tryz.func69, Tryz.ntmps69
    go_wp2
    go_ret
    refine ⟨ret_b ?_, rfl⟩
    first | rfl | (rw [Bool.eq_iff_iff]; simp; omega) | (rw [Bool.eq_iff_iff]; simp; done)
set_option maxHeartbeats 400000 in
theorem tDig_any (b : UInt8) (w : World) : Calls Tryz.prog 71 #[.int .u8 b.toNat] w fun e w' => e = .returned (.bool (tDig b)) ∧ w' = w := by
  have hb := b.toNat_lt
  have hu : tDig b = (decide (48 ≤ b.toNat) && decide (b.toNat ≤ 57)) := rfl
  rw [hu]; clear hu
  generalize b.toNat = c at *
  rcases (show c < 48 ∨ (48 ≤ c ∧ c ≤ 57) ∨ 58 ≤ c by omega) with h | ⟨h1, h2⟩ | h
  all_goals
    go_enter Tryz.func71, Tryz.ntmps71
    go_wp2
    go_ret
    refine ⟨ret_b ?_, rfl⟩
    first | rfl | (rw [Bool.eq_iff_iff]; simp; omega) | (rw [Bool.eq_iff_iff]; simp; done)
set_option maxHeartbeats 400000 in
theorem tInn_any (b : UInt8) (w : World) : Calls Tryz.prog 54 #[.int .u8 b.toNat] w fun e w' => e = .returned (.bool (tInn b)) ∧ w' = w := by
  have h1 := tLet_any b
  have h2 := tDig_any b
  have hu : tInn b = (tLet b || tDig b || ((b.toNat : Int) == 45)) := by
    unfold tInn; rw [← beq_int b 45]; rfl
  rw [hu]; clear hu
  generalize tLet b = x at *
  generalize tDig b = y at *
  cases x <;> cases y
  all_goals
    go_enter Tryz.func54, Tryz.ntmps54
    go_wp2_with (first | (go_at_call 69; refine (h1 _).mono ?_; rintro _ _ ⟨rfl, rfl⟩) | (go_at_call 71; refine (h2 _).mono ?_; rintro _ _ ⟨rfl, rfl⟩))
    go_ret
    refine ⟨ret_b ?_, rfl⟩
    simp

/-- a reader in memory -/
def RdT (w : World) (R : Nat) (s : ByteArray) (p k : Nat) : Prop :=
  w.heap[R]? = some (.cells #[.string s, .int .i64 p, .int .i64 k] 49 (0, 0))
theorem RdT.cells {w : World} {R : Nat} {s : ByteArray} {p k : Nat} (h : RdT w R s p k) :
    w.cell? ⟨R, 0, none⟩ = some (.string s) ∧ w.cell? ⟨R, 1, none⟩ = some (.int .i64 p) ∧ w.cell? ⟨R, 2, none⟩ = some (.int .i64 k) ∧ (∀ j, w.frozen? ⟨R, j, none⟩ = false) :=
  ⟨cell_of_row _ _ 0 _ _ _ h, cell_of_row _ _ 1 _ _ _ h, cell_of_row _ _ 2 _ _ _ h, fun j => by simp [World.frozen?, show w.heap[R]? = _ from h]⟩
section
variable {w : World} {R : Nat} {s : ByteArray} {p k : Nat}
theorem RdT.set1 (h : RdT w R s p k) (q : Nat) : RdT (w.setCell ⟨R, 1, none⟩ (.int .i64 q)) R s q k := heap_setCell_at w R 1 _ _ _ _ h
theorem RdT.set2 (h : RdT w R s p k) (q : Nat) : RdT (w.setCell ⟨R, 2, none⟩ (.int .i64 q)) R s p q := heap_setCell_at w R 2 _ _ _ _ h
theorem RdT.drewN (h : RdT w R s p k) (n : Nat) : RdT (w.drewN n) R s p k := h
theorem RdT.ext {w' : World} (h : RdT w R s p k) (x : Ext w w') : RdT w' R s p k := (x.block R (Array.getElem?_eq_some_iff.1 h).1).trans h
theorem RdT.lt (h : RdT w R s p k) : R < w.heap.size := (Array.getElem?_eq_some_iff.1 h).1
theorem RdT.only {w' : World} {S : Nat → Prop} (h : RdT w R s p k) (x : Only S w w') (hR : ¬ S R) : RdT w' R s p k := (x.block R h.lt hR).trans h
end
theorem setOnly (w : World) (g o : Nat) (u : Value) : Only (fun k => k = g) w (w.setCell ⟨g, o, none⟩ u) := (Only.refl _ w).setCell (S := fun k => k = g) (p := ⟨g, o, none⟩) (Or.inl rfl) u
theorem Only.drewN {S : Nat → Prop} {a w : World} (h : Only S a w) (n : Nat) : Only S a (w.drewN n) := ⟨h.os, h.tape, h.output, h.size, h.block⟩

end Go.Proofs.YtfkepclgadeeeaaGreatDoor

/-
  A reader: the byte that comes next.
-/
namespace Go.Proofs.YtfkepclgadeeeaaGreatDoor
open Go.RowKit

set_option maxRecDepth 100000 in
set_option maxHeartbeats 2000000 in
theorem isNext_any (w : World) (R : Nat) (s : ByteArray) (p k : Nat) (b : UInt8) (hr : RdT w R s p k) :
    Calls Tryz.prog 60 #[.pointer (some ⟨R, 0, none⟩), .int .u8 b.toNat] w fun e w' => e = .returned (.bool (hdIs b ((byt s).drop p))) ∧ ∃ m, w' = w.drewN m := by
  obtain ⟨c0, c1, c2, fz⟩ := hr.cells
  clear hr
  by_cases hlt : p < s.size
  · have hlti : (p : Int) < (s.size : Int) := by omega
    have hv : Hid (hdIs b ((byt s).drop p) = ((s[p].toNat : Int) == (b.toNat : Int))) := by show _ = _; rw [hdIs_in s p hlt, beq_int]
    go_enter Tryz.func60, Tryz.ntmps60
    go_wp2_with fail
    go_quiet (fail)
    go_wp2
    go_ret
    exact ⟨ret_b hv.out.symm, _, rfl⟩
  · have hlti : decide (p < s.size) = false := by simp; omega
    have hv : Hid (hdIs b ((byt s).drop p) = false) := hdIs_out s p hlt b
    go_enter Tryz.func60, Tryz.ntmps60
    go_wp2_with fail
    go_quiet (fail)
    go_wp2
    go_ret
    exact ⟨ret_b hv.out.symm, _, rfl⟩

set_option maxHeartbeats 1000000 in
theorem take_any (w : World) (R : Nat) (s : ByteArray) (p k : Nat) (b : UInt8) (hr : RdT w R s p k) (hs : s.size ≤ 140737488355328) :
    Calls Tryz.prog 52 #[.pointer (some ⟨R, 0, none⟩), .int .u8 b.toNat] w fun e w' => e = .returned (.bool (hdIs b ((byt s).drop p))) ∧ RdT w' R s (if hdIs b ((byt s).drop p) then p + 1 else p) k ∧ Only (fun g => g = R) w w' := by
  have hn := isNext_any w R s p k b hr
  have hp : hdIs b ((byt s).drop p) = true → p < s.size := fun h => by
    have := hdIs_pos h
    rw [List.length_drop, byt_length] at this
    omega
  generalize hdIs b ((byt s).drop p) = q at *
  cases q
  · have hrh : Hid (RdT w R s p k) := hr
    clear hr hp
    go_enter Tryz.func52, Tryz.ntmps52
    go_wp2_with (go_at_call 60; refine hn.mono ?_; rintro _ _ ⟨rfl, m, rfl⟩)
    go_ret
    exact ⟨rfl, hrh.out.drewN _, (Only.refl _ w).drewN _⟩
  · have hlt := hp rfl
    have hrh : Hid (RdT w R s p k) := hr
    obtain ⟨c0, c1, c2, fz⟩ := hr.cells
    clear hr hp c0 c2
    obtain ⟨q, hq⟩ : ∃ q, Hid (q = p + 1) := ⟨_, rfl⟩
    have hqi : (p : Int) + 1 = (q : Int) := by have := hq.out; omega
    go_enter Tryz.func52, Tryz.ntmps52
    go_wp2_with (go_at_call 60; refine hn.mono ?_; rintro _ _ ⟨rfl, m, rfl⟩)
    go_ret
    refine ⟨rfl, ?_, ((Only.refl _ w).drewN m).then (setOnly _ R 1 _)⟩
    rw [← hq.out]
    exact (hrh.out.drewN m).set1 q
end Go.Proofs.YtfkepclgadeeeaaGreatDoor

/-
  A reader: all bytes of a kind that come next.
-/
namespace Go.Proofs.YtfkepclgadeeeaaGreatDoor
open Go.RowKit

set_option maxRecDepth 100000 in
set_option maxHeartbeats 4000000 in
theorem takeAll_inn (w : World) (R : Nat) (s : ByteArray) (p k : Nat) (hr : RdT w R s p k) (hs : s.size ≤ 140737488355328) (hp : p ≤ s.size) :
    Calls Tryz.prog 53 #[.pointer (some ⟨R, 0, none⟩), .func (.func 54) #[] #[]] w fun e w' => e = .returned (.bool (decide (0 < spanN tInn ((byt s).drop p)))) ∧ RdT w' R s (p + spanN tInn ((byt s).drop p)) k ∧ Only (fun g => g = R) w w' := by
  have hf := fun b w => tInn_any b w
  obtain ⟨c0, c1, c2, fz⟩ := hr.cells
  have hrh : Hid (RdT w R s p k) := hr
  clear c0 c2 hr
  go_enter Tryz.func53, Tryz.ntmps53
  go_wp2
  clear c1 fz
  go_loopg [] s.size (fun n wr => ∃ i : Nat, p ≤ i ∧ i ≤ s.size ∧ s.size - i ≤ n ∧ RdT wr R s i k ∧ Only (fun g => g = R) w wr ∧ Hid (p + spanN tInn ((byt s).drop p) = i + spanN tInn ((byt s).drop i)))
  case atStart => exact ⟨p, Nat.le_refl _, hp, by omega, hrh.out, Only.refl _ _, rfl⟩
  case round =>
    obtain ⟨i, hpi, his, hn, hr, ho, hsp⟩ := hrel
    obtain ⟨c0, c1, c2, fz⟩ := hr.cells
    have hrh : Hid (RdT wr R s i k) := hr
    have hoh : Hid (Only (fun g => g = R) w wr) := ho
    have hend : spanN tInn ((byt s).drop i) = 0 → ∀ n, decide (p < i) = decide (0 < spanN tInn ((byt s).drop p)) ∧ RdT (wr.drewN n) R s (p + spanN tInn ((byt s).drop p)) k := by
      intro h0 n
      have := hsp.out
      rw [h0] at this
      refine ⟨by rw [Bool.eq_iff_iff]; simp; omega, ?_⟩
      rw [this]
      exact hr.drewN n
    clear hr ho c2
    by_cases hlt : i < s.size
    · have hlti : (i : Int) < (s.size : Int) := by omega
      have hfi := fun w => hf s[i] w
      have hsi : Hid (spanN tInn ((byt s).drop i) = if tInn s[i] then spanN tInn ((byt s).drop (i + 1)) + 1 else 0) := spanN_in tInn s i hlt
      cases hq : tInn s[i]
      · have he : Hid (∀ n, decide (p < i) = decide (0 < spanN tInn ((byt s).drop p)) ∧ RdT (wr.drewN n) R s (p + spanN tInn ((byt s).drop p)) k) := hend (by rw [hsi.out, hq]; rfl)
        rw [hq] at hfi
        clear hq hsi hend hf hsp
        go_wp2_with fail
        go_quiet (first | (go_at_call 54; exact Calls.quiet_of_same (hfi _)))
        go_wp2
        go_ret
        exact ⟨ret_b (he.out 0).1, (he.out _).2, hoh.out.drewN _⟩
      · obtain ⟨m, rfl⟩ : ∃ m, gk = m + 1 := ⟨gk - 1, by omega⟩
        have hs2 : Hid (p + spanN tInn ((byt s).drop p) = (i + 1) + spanN tInn ((byt s).drop (i + 1))) := by
          show _ = _
          rw [hsp.out, hsi.out, hq, if_pos rfl]; omega
        obtain ⟨j, hj⟩ : ∃ j, Hid (j = i + 1) := ⟨_, rfl⟩
        have hji : (i : Int) + 1 = (j : Int) := by have := hj.out; omega
        rw [hq] at hfi
        clear hq hsi hend hf hsp
        go_wp2_with fail
        go_quiet (first | (go_at_call 54; exact Calls.quiet_of_same (hfi _)))
        go_wp2
        go_roundg m
        case measure => omega
        case rel =>
          have hj2 := hj.out
          refine ⟨j, by omega, by omega, by omega, (hrh.out.drewN _).set1 j, (hoh.out.drewN _).then (setOnly _ R 1 _), ?_⟩
          rw [hj2]
          exact hs2
    · have hlti : decide (i < s.size) = false := by simp; omega
      have he : Hid (∀ n, decide (p < i) = decide (0 < spanN tInn ((byt s).drop p)) ∧ RdT (wr.drewN n) R s (p + spanN tInn ((byt s).drop p)) k) := hend (spanN_out _ s i hlt)
      clear hend hf hsp
      go_wp2_with fail
      go_quiet (fail)
      go_wp2
      go_ret
      exact ⟨ret_b (he.out 0).1, (he.out _).2, hoh.out.drewN _⟩

set_option maxRecDepth 100000 in
set_option maxHeartbeats 4000000 in
theorem takeAll_dig (w : World) (R : Nat) (s : ByteArray) (p k : Nat) (hr : RdT w R s p k) (hs : s.size ≤ 140737488355328) (hp : p ≤ s.size) :
    Calls Tryz.prog 53 #[.pointer (some ⟨R, 0, none⟩), .func (.func 71) #[] #[]] w fun e w' => e = .returned (.bool (decide (0 < spanN tDig ((byt s).drop p)))) ∧ RdT w' R s (p + spanN tDig ((byt s).drop p)) k ∧ Only (fun g => g = R) w w' := by
  have hf := fun b w => tDig_any b w
  obtain ⟨c0, c1, c2, fz⟩ := hr.cells
  have hrh : Hid (RdT w R s p k) := hr
  clear c0 c2 hr
  go_enter Tryz.func53, Tryz.ntmps53
  go_wp2
  clear c1 fz
  go_loopg [] s.size (fun n wr => ∃ i : Nat, p ≤ i ∧ i ≤ s.size ∧ s.size - i ≤ n ∧ RdT wr R s i k ∧ Only (fun g => g = R) w wr ∧ Hid (p + spanN tDig ((byt s).drop p) = i + spanN tDig ((byt s).drop i)))
  case atStart => exact ⟨p, Nat.le_refl _, hp, by omega, hrh.out, Only.refl _ _, rfl⟩
  case round =>
    obtain ⟨i, hpi, his, hn, hr, ho, hsp⟩ := hrel
    obtain ⟨c0, c1, c2, fz⟩ := hr.cells
    have hrh : Hid (RdT wr R s i k) := hr
    have hoh : Hid (Only (fun g => g = R) w wr) := ho
    have hend : spanN tDig ((byt s).drop i) = 0 → ∀ n, decide (p < i) = decide (0 < spanN tDig ((byt s).drop p)) ∧ RdT (wr.drewN n) R s (p + spanN tDig ((byt s).drop p)) k := by
      intro h0 n
      have := hsp.out
      rw [h0] at this
      refine ⟨by rw [Bool.eq_iff_iff]; simp; omega, ?_⟩
      rw [this]
      exact hr.drewN n
    clear hr ho c2
    by_cases hlt : i < s.size
    · have hlti : (i : Int) < (s.size : Int) := by omega
      have hfi := fun w => hf s[i] w
      have hsi : Hid (spanN tDig ((byt s).drop i) = if tDig s[i] then spanN tDig ((byt s).drop (i + 1)) + 1 else 0) := spanN_in tDig s i hlt
      cases hq : tDig s[i]
      · have he : Hid (∀ n, decide (p < i) = decide (0 < spanN tDig ((byt s).drop p)) ∧ RdT (wr.drewN n) R s (p + spanN tDig ((byt s).drop p)) k) := hend (by rw [hsi.out, hq]; rfl)
        rw [hq] at hfi
        clear hq hsi hend hf hsp
        go_wp2_with fail
        go_quiet (first | (go_at_call 71; exact Calls.quiet_of_same (hfi _)))
        go_wp2
        go_ret
        exact ⟨ret_b (he.out 0).1, (he.out _).2, hoh.out.drewN _⟩
      · obtain ⟨m, rfl⟩ : ∃ m, gk = m + 1 := ⟨gk - 1, by omega⟩
        have hs2 : Hid (p + spanN tDig ((byt s).drop p) = (i + 1) + spanN tDig ((byt s).drop (i + 1))) := by
          show _ = _
          rw [hsp.out, hsi.out, hq, if_pos rfl]; omega
        obtain ⟨j, hj⟩ : ∃ j, Hid (j = i + 1) := ⟨_, rfl⟩
        have hji : (i : Int) + 1 = (j : Int) := by have := hj.out; omega
        rw [hq] at hfi
        clear hq hsi hend hf hsp
        go_wp2_with fail
        go_quiet (first | (go_at_call 71; exact Calls.quiet_of_same (hfi _)))
        go_wp2
        go_roundg m
        case measure => omega
        case rel =>
          have hj2 := hj.out
          refine ⟨j, by omega, by omega, by omega, (hrh.out.drewN _).set1 j, (hoh.out.drewN _).then (setOnly _ R 1 _), ?_⟩
          rw [hj2]
          exact hs2
    · have hlti : decide (i < s.size) = false := by simp; omega
      have he : Hid (∀ n, decide (p < i) = decide (0 < spanN tDig ((byt s).drop p)) ∧ RdT (wr.drewN n) R s (p + spanN tDig ((byt s).drop p)) k) := hend (spanN_out _ s i hlt)
      clear hend hf hsp
      go_wp2_with fail
      go_quiet (fail)
      go_wp2
      go_ret
      exact ⟨ret_b (he.out 0).1, (he.out _).2, hoh.out.drewN _⟩
end Go.Proofs.YtfkepclgadeeeaaGreatDoor

/-
  A reader's faults; what was read from a place on; a byte that must come; a number.
-/
namespace Go.Proofs.YtfkepclgadeeeaaGreatDoor
open Go.RowKit

/-- a fault in memory -/
def FtAt (w : World) (g : Nat) (c p : Nat) (wd : ByteArray) : Prop := w.heap[g]? = some (.cells #[.int .i64 c, .int .i64 p, .string wd] 29 (0, 0))
/-- a fault as an error -/
def errV (g : Nat) : Value := .iface 47 (.pointer (some ⟨g, 0, none⟩))
/-- no error, or a new fault -/
def NilOr (w w' : World) (v : Value) (ok : Bool) (c p : Nat) : Prop := (ok = true ∧ v = .nilIface) ∨ (ok = false ∧ ∃ g, v = errV g ∧ w.heap.size ≤ g ∧ FtAt w' g c p ⟨#[]⟩)
/-- what is told where nothing that may stand comes next -/
def stuckC (s : ByteArray) (p : Nat) : Nat := if p = s.size then 5 else 50
theorem FtAt.ext {w w' : World} {g c p : Nat} {wd : ByteArray} (h : FtAt w g c p wd) (x : Ext w w') : FtAt w' g c p wd := (x.block g (Array.getElem?_eq_some_iff.1 h).1).trans h
theorem FtAt.drewN {w : World} {g c p : Nat} {wd : ByteArray} (h : FtAt w g c p wd) (n : Nat) : FtAt (w.drewN n) g c p wd := h
theorem FtAt.only {w w' : World} {S : Nat → Prop} {g c p : Nat} {wd : ByteArray} (h : FtAt w g c p wd) (x : Only S w w') (hg : ¬ S g) : FtAt w' g c p wd := (x.block g (Array.getElem?_eq_some_iff.1 h).1 hg).trans h
theorem NilOr.yes {w w' : World} {v : Value} {c p : Nat} (h : NilOr w w' v true c p) : v = .nilIface := by
  rcases h with h | ⟨h, _⟩
  · exact h.2
  · cases h
theorem NilOr.no {w w' : World} {v : Value} {c p : Nat} (h : NilOr w w' v false c p) : ∃ g, v = errV g ∧ w.heap.size ≤ g ∧ FtAt w' g c p ⟨#[]⟩ := by
  rcases h with ⟨h, _⟩ | h
  · cases h
  · exact h.2
theorem nilOr_yes (w w' : World) (c p : Nat) : NilOr w w' .nilIface true c p := .inl ⟨rfl, rfl⟩
theorem nilOr_no {w w' : World} {g c p : Nat} (h1 : w.heap.size ≤ g) (h2 : FtAt w' g c p ⟨#[]⟩) : NilOr w w' (errV g) false c p := .inr ⟨rfl, g, rfl, h1, h2⟩

theorem fault_any (w : World) (c p : Nat) :
    Calls Tryz.prog 39 #[.int .i64 c, .int .i64 p] w fun e w' => e = .returned (errV w.heap.size) ∧ w' = w.alloc (.cells #[.int .i64 c, .int .i64 p, .string ⟨#[]⟩] 29) := by
  go_enter Tryz.func39, Tryz.ntmps39
  go_wp2
  go_ret
  exact ⟨rfl, rfl⟩

set_option maxHeartbeats 1000000 in
theorem cannotStand_any (w : World) (R : Nat) (s : ByteArray) (p k : Nat) (hr : RdT w R s p k) :
    Calls Tryz.prog 23 #[.pointer (some ⟨R, 0, none⟩)] w fun e w' => (∃ g, e = .returned (errV g) ∧ w.heap.size ≤ g ∧ FtAt w' g (stuckC s p) p ⟨#[]⟩) ∧ Ext w w' := by
  obtain ⟨c0, c1, c2, fz⟩ := hr.cells
  clear hr c2 fz
  by_cases h : p = s.size
  · have hi : ((p : Int) == (s.size : Int)) = true := by simp; omega
    have hv : Hid (stuckC s p = 5) := if_pos h
    clear h
    go_enter Tryz.func23, Tryz.ntmps23
    go_wp2_with fail
    go_quiet (fail)
    go_wp2_with fail
    go_at_call 39
    refine (fault_any _ 5 p).mono ?_
    rintro _ _ ⟨rfl, rfl⟩
    go_wp2
    go_ret
    refine ⟨⟨_, rfl, Nat.le_refl _, ?_⟩, ((Ext.refl w).drewN _).alloc _⟩
    rw [hv.out]
    exact heap_alloc_new _ _
  · have hi : ((p : Int) == (s.size : Int)) = false := by simp; omega
    have hv : Hid (stuckC s p = 50) := if_neg h
    go_enter Tryz.func23, Tryz.ntmps23
    go_wp2_with fail
    go_quiet (fail)
    go_wp2_with fail
    go_at_call 39
    refine (fault_any _ 50 p).mono ?_
    rintro _ _ ⟨rfl, rfl⟩
    go_wp2
    go_ret
    refine ⟨⟨_, rfl, Nat.le_refl _, ?_⟩, ((Ext.refl w).drewN _).alloc _⟩
    rw [hv.out]
    exact heap_alloc_new _ _

set_option maxHeartbeats 1000000 in
theorem since_long (w : World) (R : Nat) (s : ByteArray) (p k q : Nat) (hr : RdT w R s p k) (hs : s.size ≤ 140737488355328) (hp : p ≤ s.size) (h : 65536 < p - q) :
    Calls Tryz.prog 55 #[.pointer (some ⟨R, 0, none⟩), .int .i64 q] w fun e w' => (∃ g, e = .returned (.tuple #[.string ⟨#[]⟩, errV g]) ∧ w.heap.size ≤ g ∧ FtAt w' g 3 q ⟨#[]⟩) ∧ Ext w w' := by
  obtain ⟨c0, c1, c2, fz⟩ := hr.cells
  clear hr c2 fz
  obtain ⟨d, hd⟩ : ∃ d, Hid (d = p - q) := ⟨_, rfl⟩
  have hdi : (p : Int) - (q : Int) = (d : Int) := by have := hd.out; omega
  have hli : (65536 : Int) < (d : Int) := by have := hd.out; omega
  clear h
  go_enter Tryz.func55, Tryz.ntmps55
  go_wp2_with fail
  go_at_call 39
  refine (fault_any _ 3 q).mono ?_
  rintro _ _ ⟨rfl, rfl⟩
  go_wp2
  go_ret2
  exact ⟨⟨_, rfl, Nat.le_refl _, heap_alloc_new _ _⟩, (Ext.refl w).alloc _⟩
set_option maxHeartbeats 1000000 in
theorem since_ok (w : World) (R : Nat) (s : ByteArray) (p k q : Nat) (hr : RdT w R s p k) (hp : p ≤ s.size) (hq : q ≤ p) (h : p - q ≤ 65536) :
    Calls Tryz.prog 55 #[.pointer (some ⟨R, 0, none⟩), .int .i64 q] w fun e w' => e = .returned (.tuple #[.string (s.extract q p), .nilIface]) ∧ Ext w w' := by
  obtain ⟨c0, c1, c2, fz⟩ := hr.cells
  clear hr c2 fz
  obtain ⟨d, hd⟩ : ∃ d, Hid (d = p - q) := ⟨_, rfl⟩
  have hdi : (p : Int) - (q : Int) = (d : Int) := by have := hd.out; omega
  have hli : ¬ (65536 : Int) < (d : Int) := by have := hd.out; omega
  have hpi : (p : Int) ≤ (s.size : Int) := by omega
  have hqi : (q : Int) ≤ (p : Int) := by omega
  clear h
  go_enter Tryz.func55, Tryz.ntmps55
  go_wp2_with fail
  go_quiet (fail)
  go_wp2
  go_ret2
  exact ⟨rfl, (Ext.refl w).drewN _⟩

set_option maxHeartbeats 1000000 in
theorem must_any (w : World) (R : Nat) (s : ByteArray) (p k : Nat) (b : UInt8) (hr : RdT w R s p k) (hs : s.size ≤ 140737488355328) :
    Calls Tryz.prog 38 #[.pointer (some ⟨R, 0, none⟩), .int .u8 b.toNat] w fun e w' => (∃ v, e = .returned v ∧ NilOr w w' v (hdIs b ((byt s).drop p)) (stuckC s p) p) ∧ RdT w' R s (if hdIs b ((byt s).drop p) then p + 1 else p) k ∧ Only (fun g => g = R) w w' := by
  have hn := take_any w R s p k b hr hs
  generalize hdIs b ((byt s).drop p) = q at *
  cases q
  · go_enter Tryz.func38, Tryz.ntmps38
    go_wp2_with fail
    go_at_call 52
    refine hn.mono ?_
    rintro _ w1 ⟨rfl, r1, o1⟩
    go_wp2_with fail
    go_at_call 23
    refine (cannotStand_any _ R s p k r1).mono ?_
    rintro _ w2 ⟨⟨g, rfl, hg, hf⟩, x2⟩
    go_wp2
    go_ret
    exact ⟨⟨_, rfl, nilOr_no (Nat.le_trans o1.size hg) hf⟩, r1.ext x2, o1.ext x2⟩
  · go_enter Tryz.func38, Tryz.ntmps38
    go_wp2_with fail
    go_at_call 52
    refine hn.mono ?_
    rintro _ w1 ⟨rfl, r1, o1⟩
    go_wp2
    go_ret
    exact ⟨⟨_, rfl, nilOr_yes _ _ _ _⟩, r1, o1⟩

set_option maxHeartbeats 1000000 in
theorem number_any (w : World) (R : Nat) (s : ByteArray) (p k : Nat) (hr : RdT w R s p k) (hs : s.size ≤ 140737488355328) (hp : p ≤ s.size) :
    Calls Tryz.prog 87 #[.pointer (some ⟨R, 0, none⟩)] w fun e w' => e = .returned (.bool (decide (0 < numN ((byt s).drop p)))) ∧ RdT w' R s (p + numN ((byt s).drop p)) k ∧ Only (fun g => g = R) w w' := by
  have hn := take_any w R s p k 48 hr hs
  have hu : numN ((byt s).drop p) = if hdIs 48 ((byt s).drop p) then 1 else spanN tDig ((byt s).drop p) := rfl
  generalize hdIs 48 ((byt s).drop p) = q at *
  cases q
  · have hv : Hid (numN ((byt s).drop p) = spanN tDig ((byt s).drop p)) := hu
    clear hu
    go_enter Tryz.func87, Tryz.ntmps87
    go_wp2_with fail
    go_at_call 52
    refine hn.mono ?_
    rintro _ w1 ⟨rfl, r1, o1⟩
    go_wp2_with fail
    go_at_call 53
    refine (takeAll_dig _ R s p k r1 hs hp).mono ?_
    rintro _ w2 ⟨rfl, r2, o2⟩
    go_wp2
    go_ret
    rw [hv.out]
    exact ⟨rfl, r2, o1.then o2⟩
  · have hv : Hid (numN ((byt s).drop p) = 1) := hu
    clear hu
    go_enter Tryz.func87, Tryz.ntmps87
    go_wp2_with fail
    go_at_call 52
    refine hn.mono ?_
    rintro _ w1 ⟨rfl, r1, o1⟩
    go_wp2
    go_ret
    rw [hv.out]
    exact ⟨rfl, r1, o1⟩
end Go.Proofs.YtfkepclgadeeeaaGreatDoor

/-
  A reader: numbers with dots, a word, a description.
-/
namespace Go.Proofs.YtfkepclgadeeeaaGreatDoor
open Go.RowKit

/-- what is left of a row of numbers: how far it goes, and whether it may stand -/
def numsR (rt : Bool) (f : Nat) (l : List UInt8) : Nat × Bool := if rt then numsGo f l else (0, false)
theorem numsGo_dot (f : Nat) (l : List UInt8) (h : hdIs 46 l = true) : numsGo (f + 1) l = (1 + numN (l.drop 1) + (numsR (decide (0 < numN (l.drop 1))) f (l.drop (1 + numN (l.drop 1)))).1, (numsR (decide (0 < numN (l.drop 1))) f (l.drop (1 + numN (l.drop 1)))).2) := by
  rw [numsGo, if_pos h]
  by_cases h0 : numN (l.drop 1) = 0
  · rw [if_pos h0, h0]; rfl
  · rw [if_neg h0, show decide (0 < numN (l.drop 1)) = true from decide_eq_true (by omega)]; rfl
theorem numsGo_stop (f : Nat) (l : List UInt8) (h : hdIs 46 l = false) : numsGo f l = (0, true) := by
  cases f with
  | zero => rfl
  | succ f => rw [numsGo, h]; rfl
theorem numbersP_eq (l : List UInt8) : numbersP l = if 0 < numN l then (if hdIs 46 (l.drop (numN l)) then (numN l + 1 + numN (l.drop (numN l + 1)) + (numsR (decide (0 < numN (l.drop (numN l + 1)))) l.length (l.drop (numN l + 1 + numN (l.drop (numN l + 1))))).1, (numsR (decide (0 < numN (l.drop (numN l + 1)))) l.length (l.drop (numN l + 1 + numN (l.drop (numN l + 1))))).2) else (numN l, false)) else (0, false) := by
  unfold numbersP
  by_cases h0 : numN l = 0
  · rw [if_pos h0, if_neg (show ¬ 0 < numN l by omega)]
  · rw [if_neg h0, if_pos (show 0 < numN l by omega)]
    by_cases h1 : hdIs 46 (l.drop (numN l)) = true
    · rw [if_pos h1, if_pos h1]
      by_cases h2 : numN (l.drop (numN l + 1)) = 0
      · rw [if_pos h2, h2]; rfl
      · rw [if_neg h2, show decide (0 < numN (l.drop (numN l + 1))) = true from decide_eq_true (by omega)]; rfl
    · rw [if_neg h1, if_neg h1]

/-- the loop's invariant -/
def NumsI (w : World) (R : Nat) (s : ByteArray) (p k : Nat) (n : Nat) (rt : Bool) (wr : World) : Prop :=
  ∃ i f : Nat, p ≤ i ∧ i ≤ s.size ∧ s.size - i ≤ n ∧ s.size - i ≤ f ∧ RdT wr R s i k ∧ Only (fun g => g = R) w wr ∧ p + (numbersP ((byt s).drop p)).1 = i + (numsR rt f ((byt s).drop i)).1 ∧ (numbersP ((byt s).drop p)).2 = (numsR rt f ((byt s).drop i)).2
theorem hdIs_lt {s : ByteArray} {p : Nat} {c : UInt8} (h : hdIs c ((byt s).drop p) = true) : p < s.size := by
  have := hdIs_pos h
  rw [List.length_drop, byt_length] at this
  omega
theorem numN_drop_le (s : ByteArray) (p : Nat) (h : p ≤ s.size) : p + numN ((byt s).drop p) ≤ s.size := by
  have := numN_le ((byt s).drop p)
  rw [List.length_drop, byt_length] at this
  omega

set_option maxRecDepth 100000 in
set_option maxHeartbeats 4000000 in
theorem numbers_any (w : World) (R : Nat) (s : ByteArray) (p k : Nat) (hr : RdT w R s p k) (hs : s.size ≤ 140737488355328) (hp : p ≤ s.size) :
    Calls Tryz.prog 70 #[.pointer (some ⟨R, 0, none⟩)] w fun e w' => (∃ v, e = .returned v ∧ NilOr w w' v (numbersP ((byt s).drop p)).2 (stuckC s (p + (numbersP ((byt s).drop p)).1)) (p + (numbersP ((byt s).drop p)).1)) ∧ RdT w' R s (p + (numbersP ((byt s).drop p)).1) k ∧ Only (fun g => g = R) w w' := by
  have hN := number_any w R s p k hr hs hp
  have hle := numN_drop_le s p hp
  have hE := numbersP_eq ((byt s).drop p)
  simp only [List.drop_drop] at hE
  have hlen : ((byt s).drop p).length = s.size - p := by rw [List.length_drop, byt_length]
  rw [hlen] at hE
  clear hlen
  by_cases h0 : 0 < numN ((byt s).drop p)
  · rw [if_pos h0] at hE
    rw [decide_eq_true h0] at hN
    generalize numN ((byt s).drop p) = n at *
    have hT := fun w1 (r1 : RdT w1 R s (p + n) k) => take_any w1 R s (p + n) k 46 r1 hs
    cases hd : hdIs 46 ((byt s).drop (p + n))
    · rw [hd] at hE hT
      have hv : Hid (numbersP ((byt s).drop p) = (n, false)) := hE
      clear hE hd
      generalize numbersP ((byt s).drop p) = N at *
      go_enter Tryz.func70, Tryz.ntmps70
      go_wp2_with fail
      go_at_call 87
      refine hN.mono ?_
      rintro _ w1 ⟨rfl, r1, o1⟩
      go_wp2_with fail
      go_at_call 52
      refine (hT _ r1).mono ?_
      rintro _ w2 ⟨rfl, r2, o2⟩
      go_wp2_with fail
      refine wp_loop_rounds 1 ?_
      rw [rounds_succ]
      go_wp2_with fail
      go_at_call 23
      refine (cannotStand_any _ R s (p + n) k r2).mono ?_
      rintro _ w3 ⟨⟨g, rfl, hg, hf⟩, x3⟩
      go_wp2
      go_ret
      rw [hv.out]
      exact ⟨⟨_, rfl, nilOr_no (Nat.le_trans (o1.then o2).size hg) hf⟩, r2.ext x3, (o1.then o2).ext x3⟩
    · rw [hd] at hE hT
      have hlt := hdIs_lt hd
      have hN2 := fun w2 (r2 : RdT w2 R s (p + n + 1) k) => number_any w2 R s (p + n + 1) k r2 hs (by omega)
      have hle2 := numN_drop_le s (p + n + 1) (by omega)
      rw [if_pos rfl, show p + (n + 1) = p + n + 1 by omega, show p + (n + 1 + numN ((byt s).drop (p + n + 1))) = p + n + 1 + numN ((byt s).drop (p + n + 1)) by omega] at hE
      clear hd
      generalize numN ((byt s).drop (p + n + 1)) = m at *
      have hEh : Hid (numbersP ((byt s).drop p) = _) := hE
      clear hE
      go_enter Tryz.func70, Tryz.ntmps70
      go_wp2_with fail
      go_at_call 87
      refine hN.mono ?_
      rintro _ w1 ⟨rfl, r1, o1⟩
      go_wp2_with fail
      go_at_call 52
      refine (hT _ r1).mono ?_
      rintro _ w2 ⟨rfl, r2, o2⟩
      go_wp2_with fail
      go_at_call 87
      refine (hN2 _ r2).mono ?_
      rintro _ w3 ⟨rfl, r3, o3⟩
      go_wp2_with fail
      clear hN hT hN2
      go_loopg [3] s.size (fun n v wr => ∃ rt, v = .bool rt ∧ Hid (NumsI w R s p k n rt wr))
      case atStart => exact ⟨_, rfl, p + n + 1 + m, s.size - p, by omega, by omega, by omega, by omega, r3, (o1.then o2).then o3, by rw [hEh.out]; omega, by rw [hEh.out]⟩
      case round =>
        obtain ⟨rt, rfl, hI⟩ := hrel
        clear hEh
        obtain ⟨i, f, hpi, his, hn, hf, hri, hoi, e1, e2⟩ := hI.out
        have he1 : Hid (p + (numbersP ((byt s).drop p)).1 = i + (numsR rt f ((byt s).drop i)).1) := e1
        have he2 : Hid ((numbersP ((byt s).drop p)).2 = (numsR rt f ((byt s).drop i)).2) := e2
        clear e1 e2 hI r1 r2 r3 o1 o2 o3
        cases rt
        · go_wp2_with fail
          go_at_call 23
          refine (cannotStand_any _ R s i k hri).mono ?_
          rintro _ w4 ⟨⟨g, rfl, hg, hft⟩, x4⟩
          go_wp2
          go_ret
          have q1 : p + (numbersP ((byt s).drop p)).1 = i := he1.out
          have q2 : (numbersP ((byt s).drop p)).2 = false := he2.out
          rw [q1, q2]
          exact ⟨⟨_, rfl, nilOr_no (Nat.le_trans hoi.size hg) hft⟩, hri.ext x4, hoi.ext x4⟩
        · have hT := take_any wr R s i k 46 hri hs
          cases hd : hdIs 46 ((byt s).drop i)
          · rw [hd] at hT
            have hst : Hid (numsR true f ((byt s).drop i) = (0, true)) := numsGo_stop f _ hd
            clear hd
            go_wp2_with fail
            go_at_call 52
            refine hT.mono ?_
            rintro _ w4 ⟨rfl, r4, o4⟩
            go_wp2
            go_ret
            have q1 : p + (numbersP ((byt s).drop p)).1 = i := by rw [he1.out, hst.out]; rfl
            have q2 : (numbersP ((byt s).drop p)).2 = true := by rw [he2.out, hst.out]
            rw [q1, q2]
            exact ⟨⟨_, rfl, nilOr_yes _ _ _ _⟩, r4, hoi.then o4⟩
          · rw [hd] at hT
            have hlt2 := hdIs_lt hd
            obtain ⟨f', rfl⟩ : ∃ f', f = f' + 1 := ⟨f - 1, by omega⟩
            have hst : Hid (numsR true (f' + 1) ((byt s).drop i) = _) := numsGo_dot f' _ hd
            obtain ⟨mm, rfl⟩ : ∃ mm, gk = mm + 1 := ⟨gk - 1, by omega⟩
            have hN2 := fun w2 (r2 : RdT w2 R s (i + 1) k) => number_any w2 R s (i + 1) k r2 hs (by omega)
            have hle3 := numN_drop_le s (i + 1) (by omega)
            clear hd
            go_wp2_with fail
            go_at_call 52
            refine hT.mono ?_
            rintro _ w4 ⟨rfl, r4, o4⟩
            go_wp2_with fail
            go_at_call 87
            refine (hN2 _ r4).mono ?_
            rintro _ w5 ⟨rfl, r5, o5⟩
            go_wp2
            go_roundg mm
            case measure => omega
            case rel =>
              have q := hst.out
              simp only [List.drop_drop] at q
              rw [show i + (1 + numN ((byt s).drop (i + 1))) = i + 1 + numN ((byt s).drop (i + 1)) by omega] at q
              refine ⟨_, rfl, i + 1 + numN ((byt s).drop (i + 1)), f', by omega, by omega, by omega, by omega, r5, (hoi.then o4).then o5, ?_, ?_⟩
              · rw [he1.out, q]; omega
              · rw [he2.out, q]
  · rw [if_neg h0] at hE
    have hv : Hid (numbersP ((byt s).drop p) = (0, false)) := hE
    have hn0 : numN ((byt s).drop p) = 0 := by omega
    rw [decide_eq_false h0, hn0] at hN
    clear hE hle h0 hn0
    go_enter Tryz.func70, Tryz.ntmps70
    go_wp2_with fail
    go_at_call 87
    refine hN.mono ?_
    rintro _ w1 ⟨rfl, r1, o1⟩
    go_wp2_with fail
    refine wp_loop_rounds 1 ?_
    rw [rounds_succ]
    go_wp2_with fail
    go_at_call 23
    refine (cannotStand_any _ R s (p + 0) k r1).mono ?_
    rintro _ w3 ⟨⟨g, rfl, hg, hf⟩, x3⟩
    go_wp2
    go_ret
    rw [hv.out]
    exact ⟨⟨_, rfl, nilOr_no (Nat.le_trans o1.size hg) hf⟩, r1.ext x3, o1.ext x3⟩
end Go.Proofs.YtfkepclgadeeeaaGreatDoor

/-
  A reader: a word, a description; text.Desc.
-/
namespace Go.Proofs.YtfkepclgadeeeaaGreatDoor
open Go.RowKit

theorem spanN_drop_le (q : UInt8 → Bool) (s : ByteArray) (p : Nat) (h : p ≤ s.size) : p + spanN q ((byt s).drop p) ≤ s.size := by
  have := spanN_le q ((byt s).drop p)
  rw [List.length_drop, byt_length] at this
  omega
set_option maxRecDepth 100000 in
set_option maxHeartbeats 4000000 in
theorem word_any (w : World) (R : Nat) (s : ByteArray) (p k : Nat) (hr : RdT w R s p k) (hs : s.size ≤ 140737488355328) (hp : p ≤ s.size) :
    Calls Tryz.prog 51 #[.pointer (some ⟨R, 0, none⟩)] w fun e w' => (∃ v, e = .returned v ∧ NilOr w w' v (wordP ((byt s).drop p)).2 (stuckC s (p + (wordP ((byt s).drop p)).1)) (p + (wordP ((byt s).drop p)).1)) ∧ RdT w' R s (p + (wordP ((byt s).drop p)).1) k ∧ Only (fun g => g = R) w w' := by
  have hu : wordP ((byt s).drop p) = if hdLet ((byt s).drop p) then (spanN tInn ((byt s).drop p), true) else numbersP ((byt s).drop p) := rfl
  have hNs := fun w1 (r1 : RdT w1 R s p k) => numbers_any w1 R s p k r1 hs hp
  have hTA := fun w1 (r1 : RdT w1 R s p k) => takeAll_inn w1 R s p k r1 hs hp
  have hrh : Hid (RdT w R s p k) := hr
  obtain ⟨c0, c1, c2, fz⟩ := hr.cells
  clear hr c2 fz
  by_cases hlt : p < s.size
  · have hlti : (p : Int) < (s.size : Int) := by omega
    rw [hdLet_in s p hlt] at hu
    have hL := fun w => tLet_any s[p] w
    cases hl : tLet s[p]
    · rw [hl] at hu hL
      have hv : Hid (wordP ((byt s).drop p) = numbersP ((byt s).drop p)) := hu
      clear hu hl hTA
      go_enter Tryz.func51, Tryz.ntmps51
      go_wp2_with fail
      go_quiet (first | (go_at_call 69; exact Calls.quiet_of_same (hL _)))
      go_wp2_with fail
      go_at_call 70
      refine (hNs _ (hrh.out.drewN _)).mono ?_
      rintro _ w1 ⟨⟨v, rfl, hn⟩, r1, o1⟩
      go_wp2
      go_ret
      rw [hv.out]
      exact ⟨⟨_, rfl, hn⟩, r1, ((Only.refl _ w).drewN _).then o1⟩
    · rw [hl] at hu hL
      have hv : Hid (wordP ((byt s).drop p) = (spanN tInn ((byt s).drop p), true)) := hu
      clear hu hl hNs
      go_enter Tryz.func51, Tryz.ntmps51
      go_wp2_with fail
      go_quiet (first | (go_at_call 69; exact Calls.quiet_of_same (hL _)))
      go_wp2_with fail
      go_at_call 53
      refine (hTA _ (hrh.out.drewN _)).mono ?_
      rintro _ w1 ⟨rfl, r1, o1⟩
      go_wp2
      go_ret
      rw [hv.out]
      exact ⟨⟨_, rfl, nilOr_yes _ _ _ _⟩, r1, ((Only.refl _ w).drewN _).then o1⟩
  · have hlti : decide (p < s.size) = false := by simp; omega
    rw [hdLet_out s p hlt] at hu
    have hv : Hid (wordP ((byt s).drop p) = numbersP ((byt s).drop p)) := hu
    clear hu hTA
    go_enter Tryz.func51, Tryz.ntmps51
    go_wp2_with fail
    go_quiet (fail)
    go_wp2_with fail
    go_at_call 70
    refine (hNs _ (hrh.out.drewN _)).mono ?_
    rintro _ w1 ⟨⟨v, rfl, hn⟩, r1, o1⟩
    go_wp2
    go_ret
    rw [hv.out]
    exact ⟨⟨_, rfl, hn⟩, r1, ((Only.refl _ w).drewN _).then o1⟩

/-- what is left of a row of options -/
def optsR (ok : Bool) (f : Nat) (l : List UInt8) : Nat × Bool := if ok then optsGo f l else (0, false)
theorem optsGo_some (f : Nat) (l : List UInt8) (h : hdIs 59 l = true) : optsGo (f + 1) l = (1 + spanN tInn (l.drop 1) + (optsR (decide (0 < spanN tInn (l.drop 1))) f (l.drop (1 + spanN tInn (l.drop 1)))).1, (optsR (decide (0 < spanN tInn (l.drop 1))) f (l.drop (1 + spanN tInn (l.drop 1)))).2) := by
  rw [optsGo, if_pos h]
  by_cases h0 : spanN tInn (l.drop 1) = 0
  · rw [if_pos h0, h0]; rfl
  · rw [if_neg h0, show decide (0 < spanN tInn (l.drop 1)) = true from decide_eq_true (by omega)]; rfl
theorem optsGo_stop (f : Nat) (l : List UInt8) (h : hdIs 59 l = false) : optsGo f l = (0, true) := by
  cases f with
  | zero => rfl
  | succ f => rw [optsGo, h]; rfl
theorem descP_eq (l : List UInt8) : descP l = ((wordP l).1 + (optsR (wordP l).2 l.length (l.drop (wordP l).1)).1, (optsR (wordP l).2 l.length (l.drop (wordP l).1)).2) := by
  unfold descP
  cases h : (wordP l).2
  · simp only [optsR]; generalize wordP l = x at *; obtain ⟨a, b⟩ := x; simp only at h; subst h; rfl
  · rfl
/-- the loop's invariant -/
def OptsI (w : World) (R : Nat) (s : ByteArray) (p k : Nat) (n : Nat) (ok : Bool) (v : Value) (wr : World) : Prop :=
  ∃ i f : Nat, p ≤ i ∧ i ≤ s.size ∧ s.size - i ≤ n ∧ s.size - i ≤ f ∧ RdT wr R s i k ∧ Only (fun g => g = R) w wr ∧ p + (descP ((byt s).drop p)).1 = i + (optsR ok f ((byt s).drop i)).1 ∧ (descP ((byt s).drop p)).2 = (optsR ok f ((byt s).drop i)).2 ∧ NilOr w wr v ok (stuckC s i) i
/-- a description as it is read: its text, or a new fault -/
def DescPost (w : World) (R : Nat) (s : ByteArray) (p k : Nat) (e : Ending) (w' : World) : Prop :=
  RdT w' R s (p + (descP ((byt s).drop p)).1) k ∧ Only (fun g => g = R) w w' ∧
    (if (descP ((byt s).drop p)).2 then (if (descP ((byt s).drop p)).1 ≤ 65536 then e = .returned (.tuple #[.string (s.extract p (p + (descP ((byt s).drop p)).1)), .nilIface]) else ∃ g, e = .returned (.tuple #[.string ⟨#[]⟩, errV g]) ∧ w.heap.size ≤ g ∧ FtAt w' g 3 p ⟨#[]⟩)
      else ∃ g, e = .returned (.tuple #[.string ⟨#[]⟩, errV g]) ∧ w.heap.size ≤ g ∧ FtAt w' g (stuckC s (p + (descP ((byt s).drop p)).1)) (p + (descP ((byt s).drop p)).1) ⟨#[]⟩)

set_option maxRecDepth 100000 in
set_option maxHeartbeats 4000000 in
theorem desc_any (w : World) (R : Nat) (s : ByteArray) (p k : Nat) (hr : RdT w R s p k) (hs : s.size ≤ 140737488355328) (hp : p ≤ s.size) :
    Calls Tryz.prog 31 #[.pointer (some ⟨R, 0, none⟩)] w (DescPost w R s p k) := by
  have hW := word_any w R s p k hr hs hp
  have hE := descP_eq ((byt s).drop p)
  simp only [List.drop_drop] at hE
  have hlen : ((byt s).drop p).length = s.size - p := by rw [List.length_drop, byt_length]
  have hwl := wordP_le ((byt s).drop p)
  have hdl := descP_le ((byt s).drop p)
  rw [hlen] at hE hwl hdl
  clear hlen
  generalize wordP ((byt s).drop p) = N at *
  obtain ⟨n, ok⟩ := N
  simp only at hE hW hwl
  have hEh : Hid (descP ((byt s).drop p) = _) := hE
  clear hE
  obtain ⟨c0, c1, c2, fz⟩ := hr.cells
  clear c0 c2 fz hr
  go_enter Tryz.func31, Tryz.ntmps31
  go_wp2_with fail
  clear c1
  go_at_call 51
  refine hW.mono ?_
  rintro _ w1 ⟨⟨v, rfl, hn⟩, r1, o1⟩
  go_wp2_with fail
  clear hW
  go_loopg [5] s.size (fun n v wr => ∃ ok, Hid (OptsI w R s p k n ok v wr))
  case atStart => exact ⟨ok, p + n, s.size - p, by omega, by omega, by omega, by omega, r1, o1, by rw [hEh.out]; omega, by rw [hEh.out], hn⟩
  case round =>
    obtain ⟨ok, hI⟩ := hrel
    clear hEh hn r1 o1
    obtain ⟨i, f, hpi, his, hn, hf, hri, hoi, e1, e2, hnil⟩ := hI.out
    have he1 : Hid (p + (descP ((byt s).drop p)).1 = i + (optsR ok f ((byt s).drop i)).1) := e1
    have he2 : Hid ((descP ((byt s).drop p)).2 = (optsR ok f ((byt s).drop i)).2) := e2
    clear e1 e2 hI
    cases ok
    · obtain ⟨g, rfl, hg, hft⟩ := hnil.no
      have hfh : Hid (FtAt wr g (stuckC s i) i ⟨#[]⟩) := hft
      clear hft hnil
      unfold errV
      go_wp2
      go_ret2
      have q1 : p + (descP ((byt s).drop p)).1 = i := he1.out
      have q2 : (descP ((byt s).drop p)).2 = false := he2.out
      unfold DescPost
      rw [q1, q2]
      exact ⟨hri, hoi, g, rfl, hg, hfh.out⟩
    · obtain rfl := hnil.yes
      clear hnil
      have hT := take_any wr R s i k 59 hri hs
      cases hd : hdIs 59 ((byt s).drop i)
      · rw [hd] at hT
        have hst : Hid (optsR true f ((byt s).drop i) = (0, true)) := optsGo_stop f _ hd
        have q1 : p + (descP ((byt s).drop p)).1 = i := by rw [he1.out, hst.out]; rfl
        have q2 : Hid ((descP ((byt s).drop p)).2 = true) := by show _ = _; rw [he2.out, hst.out]
        have q3 : Hid ((descP ((byt s).drop p)).1 = i - p) := by show _ = _; omega
        clear hd q1
        by_cases h65 : i - p ≤ 65536
        · have hS := fun w1 (r1 : RdT w1 R s i k) => since_ok w1 R s i k p r1 his hpi h65
          go_wp2_with fail
          go_at_call 52
          refine hT.mono ?_
          rintro _ w4 ⟨rfl, r4, o4⟩
          go_wp2_with fail
          go_at_call 55
          refine (hS _ r4).mono ?_
          rintro _ w5 ⟨rfl, x5⟩
          go_wp2
          go_ret2
          unfold DescPost
          rw [q2.out, q3.out, if_pos rfl, if_pos h65, show p + (i - p) = i by omega]
          exact ⟨r4.ext x5, (hoi.then o4).ext x5, rfl⟩
        · have hS := fun w1 (r1 : RdT w1 R s i k) => since_long w1 R s i k p r1 hs his (by omega)
          go_wp2_with fail
          go_at_call 52
          refine hT.mono ?_
          rintro _ w4 ⟨rfl, r4, o4⟩
          go_wp2_with fail
          go_at_call 55
          refine (hS _ r4).mono ?_
          rintro _ w5 ⟨⟨g, rfl, hg, hft⟩, x5⟩
          go_wp2
          go_ret2
          unfold DescPost
          rw [q2.out, q3.out, if_pos rfl, if_neg h65, show p + (i - p) = i by omega]
          exact ⟨r4.ext x5, (hoi.then o4).ext x5, g, rfl, Nat.le_trans (hoi.then o4).size hg, hft⟩
      · rw [hd] at hT
        have hlt2 := hdIs_lt hd
        obtain ⟨f', rfl⟩ : ∃ f', f = f' + 1 := ⟨f - 1, by omega⟩
        have hst : Hid (optsR true (f' + 1) ((byt s).drop i) = _) := optsGo_some f' _ hd
        obtain ⟨mm, rfl⟩ : ∃ mm, gk = mm + 1 := ⟨gk - 1, by omega⟩
        have hN2 := fun w2 (r2 : RdT w2 R s (i + 1) k) => takeAll_inn w2 R s (i + 1) k r2 hs (by omega)
        have hle3 := spanN_drop_le tInn s (i + 1) (by omega)
        have q := hst.out
        simp only [List.drop_drop] at q
        rw [show i + (1 + spanN tInn ((byt s).drop (i + 1))) = i + 1 + spanN tInn ((byt s).drop (i + 1)) by omega] at q
        have q1 : Hid (p + (descP ((byt s).drop p)).1 = i + 1 + spanN tInn ((byt s).drop (i + 1)) + (optsR (decide (0 < spanN tInn ((byt s).drop (i + 1)))) f' ((byt s).drop (i + 1 + spanN tInn ((byt s).drop (i + 1))))).1) := by show _ = _; rw [he1.out, q]; omega
        have q2 : Hid ((descP ((byt s).drop p)).2 = (optsR (decide (0 < spanN tInn ((byt s).drop (i + 1)))) f' ((byt s).drop (i + 1 + spanN tInn ((byt s).drop (i + 1))))).2) := by show _ = _; rw [he2.out, q]
        clear hd q hst he1 he2
        generalize spanN tInn ((byt s).drop (i + 1)) = m at *
        by_cases hm : 0 < m
        · rw [decide_eq_true hm] at hN2 q1 q2
          go_wp2_with fail
          go_at_call 52
          refine hT.mono ?_
          rintro _ w4 ⟨rfl, r4, o4⟩
          go_wp2_with fail
          go_at_call 53
          refine (hN2 _ r4).mono ?_
          rintro _ w5 ⟨rfl, r5, o5⟩
          go_wp2
          go_roundg mm
          case measure => omega
          case rel => exact ⟨true, i + 1 + m, f', by omega, by omega, by omega, by omega, r5, (hoi.then o4).then o5, q1.out, q2.out, nilOr_yes _ _ _ _⟩
        · rw [decide_eq_false hm] at hN2 q1 q2
          go_wp2_with fail
          go_at_call 52
          refine hT.mono ?_
          rintro _ w4 ⟨rfl, r4, o4⟩
          go_wp2_with fail
          go_at_call 53
          refine (hN2 _ r4).mono ?_
          rintro _ w5 ⟨rfl, r5, o5⟩
          go_wp2_with fail
          go_at_call 23
          refine (cannotStand_any _ R s (i + 1 + m) k r5).mono ?_
          rintro _ w6 ⟨⟨g, rfl, hg, hft⟩, x6⟩
          have o6 := (hoi.then o4).then o5
          go_wp2
          go_roundg mm
          case measure => omega
          case rel => exact ⟨false, i + 1 + m, f', by omega, by omega, by omega, by omega, r5.ext x6, o6.ext x6, q1.out, q2.out, nilOr_no (Nat.le_trans o6.size hg) hft⟩

/-- is it a description? -/
def descB (l : List UInt8) : Bool := (descP l).2 && decide ((descP l).1 = l.length) && decide (l.length ≤ 65536)
set_option maxHeartbeats 1000000 in
theorem Desc_any (w : World) (s : ByteArray) (hs : s.size ≤ 140737488355328) :
    Calls Tryz.prog 16 #[.string s] w fun e w' => e = .returned (.bool (descB (byt s))) ∧ Ext w w' := by
  have hD := fun w1 R (r1 : RdT w1 R s 0 0) => desc_any w1 R s 0 0 r1 hs (Nat.zero_le _)
  unfold DescPost at hD
  simp only [List.drop_zero, Nat.zero_add] at hD
  have hu : descB (byt s) = ((descP (byt s)).2 && decide ((descP (byt s)).1 = s.size) && decide (s.size ≤ 65536)) := by unfold descB; rw [byt_length]
  rw [hu]
  clear hu
  generalize descP (byt s) = N at *
  obtain ⟨n, ok⟩ := N
  simp only at *
  have hr0 : RdT (w.alloc (.cells #[.string s, .int .i64 0, .int .i64 0] 49)) w.heap.size s 0 0 := heap_alloc_new _ _
  have hD1 := hD _ _ hr0
  have hx : ∀ w1, Only (fun g => g = w.heap.size) (w.alloc (.cells #[.string s, .int .i64 0, .int .i64 0] 49)) w1 → Ext w w1 := fun w1 o => ((Ext.refl w).alloc _).then o (fun g hg => by omega)
  clear hD hr0
  cases ok
  · go_enter Tryz.func16, Tryz.ntmps16
    go_wp2_with fail
    go_at_call 31
    refine hD1.mono ?_
    rintro e w1 ⟨r1, o1, h1⟩
    obtain ⟨g, rfl, _, _⟩ := h1
    unfold errV
    go_wp2
    go_ret
    exact ⟨rfl, hx _ o1⟩
  · by_cases h65 : n ≤ 65536
    · have h65b : Hid ((decide (n = s.size) && decide (s.size ≤ 65536)) = decide (n = s.size)) := by
        show _ = _
        rw [Bool.eq_iff_iff]; simp; omega
      simp only [↓reduceIte, h65] at hD1
      clear h65
      go_enter Tryz.func16, Tryz.ntmps16
      go_wp2_with fail
      go_at_call 31
      refine hD1.mono ?_
      rintro e w1 ⟨r1, o1, rfl⟩
      obtain ⟨c0, c1, c2, fz⟩ := r1.cells
      go_wp2
      go_ret
      refine ⟨ret_b ?_, hx _ o1⟩
      rw [Bool.true_and, h65b.out]
      first | rfl | (rw [Bool.eq_iff_iff]; simp; omega)
    · have h65b : Hid ((decide (n = s.size) && decide (s.size ≤ 65536)) = false) := by
        show _ = _
        rw [Bool.eq_false_iff]; simp; omega
      simp only [↓reduceIte, h65] at hD1
      clear h65
      go_enter Tryz.func16, Tryz.ntmps16
      go_wp2_with fail
      go_at_call 31
      refine hD1.mono ?_
      rintro e w1 ⟨r1, o1, g, rfl, _, _⟩
      unfold errV
      go_wp2
      go_ret
      refine ⟨ret_b ?_, hx _ o1⟩
      rw [Bool.true_and, h65b.out]
end Go.Proofs.YtfkepclgadeeeaaGreatDoor
