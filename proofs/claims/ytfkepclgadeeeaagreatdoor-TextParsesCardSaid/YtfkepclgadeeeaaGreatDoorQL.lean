/-
  The program's reader of any text: outcomes; descriptions, values, rules' words.
-/
import Derived.Test.YtfkepclgadeeeaaGreatDoorQE
import Derived.Test.YtfkepclgadeeeaaGreatDoorQI
namespace Go.Proofs.YtfkepclgadeeeaaGreatDoor
open Go.RowKit

/-- what is read, and the place behind it; or a fault's number and its place -/
inductive Tr (α : Type) where
  | ok (x : α) (q : Nat)
  | bad (c a : Nat)
def Tr.bind {α β : Type} (o : Tr α) (g : α → Nat → Tr β) : Tr β := match o with
  | .ok x q => g x q
  | .bad c a => .bad c a
/-- a text as it is read: what it says, or a new fault -/
def StrPost (w : World) (R : Nat) (s : ByteArray) (k : Nat) (o : Tr ByteArray) (e : Ending) (w' : World) : Prop :=
  Only (fun g => g = R) w w' ∧ match o with
  | .ok x q => e = .returned (.tuple #[.string x, .nilIface]) ∧ RdT w' R s q k
  | .bad c a => ∃ g q, e = .returned (.tuple #[.string ⟨#[]⟩, errV g]) ∧ w.heap.size ≤ g ∧ FtAt w' g c a ⟨#[]⟩ ∧ RdT w' R s q k
def descR (s : ByteArray) (p : Nat) : Tr ByteArray :=
  if (descP ((byt s).drop p)).2 then
    if (descP ((byt s).drop p)).1 ≤ 65536 then .ok (s.extract p (p + (descP ((byt s).drop p)).1)) (p + (descP ((byt s).drop p)).1) else .bad 3 p
  else .bad (stuckC s (p + (descP ((byt s).drop p)).1)) (p + (descP ((byt s).drop p)).1)
def valR (s : ByteArray) (inP : Bool) (p : Nat) : Tr ByteArray :=
  if valE s p inP = 0 then
    if (valS s p inP).size ≤ 65536 then .ok (valS s p inP) (p + valN s p inP) else .bad 3 p
  else .bad (valE s p inP) (p + valN s p inP)
def ruleR (s : ByteArray) (p : Nat) : Tr ByteArray :=
  if (wordP ((byt s).drop p)).2 then
    if (wordP ((byt s).drop p)).1 ≤ 65536 then .ok (s.extract p (p + (wordP ((byt s).drop p)).1)) (p + (wordP ((byt s).drop p)).1) else .bad 3 p
  else .bad (stuckC s (p + (wordP ((byt s).drop p)).1)) (p + (wordP ((byt s).drop p)).1)
theorem descR_any (w : World) (R : Nat) (s : ByteArray) (p k : Nat) (hr : RdT w R s p k) (hs : s.size ≤ 140737488355328) (hp : p ≤ s.size) :
    Calls Tryz.prog 31 #[.pointer (some ⟨R, 0, none⟩)] w (StrPost w R s k (descR s p)) := by
  refine (desc_any w R s p k hr hs hp).mono fun e w' ⟨r, o, h⟩ => ?_
  unfold StrPost descR
  refine ⟨o, ?_⟩
  split at h
  · rename_i h1
    rw [if_pos h1]
    split at h
    · rename_i h2
      rw [if_pos h2]
      exact ⟨h, r⟩
    · rename_i h2
      rw [if_neg h2]
      obtain ⟨g, h3, h4, h5⟩ := h
      exact ⟨g, _, h3, h4, h5, r⟩
  · rename_i h1
    rw [if_neg h1]
    obtain ⟨g, h3, h4, h5⟩ := h
    exact ⟨g, _, h3, h4, h5, r⟩
theorem valR_any (w : World) (R : Nat) (s : ByteArray) (p k : Nat) (inP : Bool) (hr : RdT w R s p k) (hs : s.size ≤ 140737488355328) (hp : p ≤ s.size) (g off cap : Nat) (ht : Tab w g off cap) (hg : g ≠ R) (hG : 1 ≠ R) :
    Calls Tryz.prog 90 #[.pointer (some ⟨R, 0, none⟩), .bool inP] w (StrPost w R s k (valR s inP p)) := by
  refine (value_any w R s p k inP hr hs hp g off cap ht hg hG).mono fun e w' ⟨r, o, h⟩ => ?_
  unfold StrPost valR
  refine ⟨o, ?_⟩
  split at h
  · rename_i h1
    rw [if_pos h1]
    split at h
    · rename_i h2
      rw [if_pos h2]
      exact ⟨h, r⟩
    · rename_i h2
      rw [if_neg h2]
      obtain ⟨g, h3, h4, h5⟩ := h
      exact ⟨g, _, h3, h4, h5, r⟩
  · rename_i h1
    rw [if_neg h1]
    obtain ⟨g, h3, h4, h5⟩ := h
    exact ⟨g, _, h3, h4, h5, r⟩
/-- the place behind what was read lies within the text -/
theorem descR_le {s : ByteArray} {p : Nat} (hp : p ≤ s.size) {x : ByteArray} {q : Nat} (h : descR s p = .ok x q) : p ≤ q ∧ q ≤ s.size := by
  have h1 := descP_le ((byt s).drop p)
  rw [List.length_drop, byt_length] at h1
  unfold descR at h
  split at h
  · split at h
    · cases h; omega
    · cases h
  · cases h
theorem valR_le {s : ByteArray} {p : Nat} {inP : Bool} (hp : p ≤ s.size) {x : ByteArray} {q : Nat} (h : valR s inP p = .ok x q) : p ≤ q ∧ q ≤ s.size := by
  have h1 := valN_le s p inP hp
  unfold valR at h
  split at h
  · split at h
    · cases h; omega
    · cases h
  · cases h
theorem ruleR_le {s : ByteArray} {p : Nat} (hp : p ≤ s.size) {x : ByteArray} {q : Nat} (h : ruleR s p = .ok x q) : p ≤ q ∧ q ≤ s.size := by
  have h1 := wordP_le ((byt s).drop p)
  rw [List.length_drop, byt_length] at h1
  unfold ruleR at h
  split at h
  · split at h
    · cases h; omega
    · cases h
  · cases h

set_option maxRecDepth 100000 in
set_option maxHeartbeats 4000000 in
theorem ruleR_any (w : World) (R : Nat) (s : ByteArray) (p k : Nat) (hr : RdT w R s p k) (hs : s.size ≤ 140737488355328) (hp : p ≤ s.size) :
    Calls Tryz.prog 103 #[.pointer (some ⟨R, 0, none⟩)] w (StrPost w R s k (ruleR s p)) := by
  have hW := word_any w R s p k hr hs hp
  have hwl := wordP_le ((byt s).drop p)
  rw [List.length_drop, byt_length] at hwl
  unfold ruleR
  generalize wordP ((byt s).drop p) = N at *
  obtain ⟨n, ok⟩ := N
  simp only at hW hwl ⊢
  obtain ⟨m, hm⟩ : ∃ m, m = p + n := ⟨_, rfl⟩
  rw [← hm] at hW ⊢
  obtain ⟨c0, c1, c2, fz⟩ := hr.cells
  clear c0 c2 fz hr
  cases ok with
  | false =>
    have hP : ∀ e w', StrPost w R s k (.bad (stuckC s m) m) e w' → StrPost w R s k (if false = true then (if n ≤ 65536 then .ok (s.extract p m) m else .bad 3 p) else .bad (stuckC s m) m) e w' := fun _ _ h => h
    refine Calls.mono ?_ hP
    clear hP
    generalize stuckC s m = c at *
    go_enter Tryz.func103, Tryz.ntmps103
    go_wp2_with fail
    go_at_call 51
    refine hW.mono ?_
    rintro _ w1 ⟨⟨v, rfl, hn⟩, r1, o1⟩
    obtain ⟨g, rfl, h1, h2⟩ := hn.no
    unfold errV
    go_wp2
    go_ret2
    exact ⟨o1, g, m, rfl, h1, h2, r1⟩
  | true =>
    by_cases hl : n ≤ 65536
    · have hP : ∀ e w', StrPost w R s k (.ok (s.extract p m) m) e w' → StrPost w R s k (if true = true then (if n ≤ 65536 then .ok (s.extract p m) m else .bad 3 p) else .bad (stuckC s m) m) e w' := fun _ _ h => by rw [if_pos rfl, if_pos hl]; exact h
      refine Calls.mono ?_ hP
      clear hP
      have hS := fun w1 (r1 : RdT w1 R s m k) => since_ok w1 R s m k p r1 (by omega) (by omega) (by omega)
      generalize stuckC s m = c at *
      generalize s.extract p m = x at *
      go_enter Tryz.func103, Tryz.ntmps103
      go_wp2_with fail
      go_at_call 51
      refine hW.mono ?_
      rintro _ w1 ⟨⟨v, rfl, hn⟩, r1, o1⟩
      obtain rfl := hn.yes
      go_wp2_with fail
      go_at_call 55
      refine (hS w1 r1).mono ?_
      rintro _ w2 ⟨rfl, x2⟩
      go_wp2
      go_ret2
      exact ⟨o1.ext x2, rfl, r1.ext x2⟩
    · have hP : ∀ e w', StrPost w R s k (.bad 3 p) e w' → StrPost w R s k (if true = true then (if n ≤ 65536 then .ok (s.extract p m) m else .bad 3 p) else .bad (stuckC s m) m) e w' := fun _ _ h => by rw [if_pos rfl, if_neg hl]; exact h
      refine Calls.mono ?_ hP
      clear hP
      have hS := fun w1 (r1 : RdT w1 R s m k) => since_long w1 R s m k p r1 hs (by omega) (by omega)
      generalize stuckC s m = c at *
      go_enter Tryz.func103, Tryz.ntmps103
      go_wp2_with fail
      go_at_call 51
      refine hW.mono ?_
      rintro _ w1 ⟨⟨v, rfl, hn⟩, r1, o1⟩
      obtain rfl := hn.yes
      go_wp2_with fail
      go_at_call 55
      refine (hS w1 r1).mono ?_
      rintro _ w2 ⟨⟨g, rfl, h1, h2⟩, x2⟩
      go_wp2
      go_ret2
      exact ⟨o1.ext x2, g, m, rfl, Nat.le_trans o1.size h1, h2, r1.ext x2⟩
end Go.Proofs.YtfkepclgadeeeaaGreatDoor

/-
  The program's reader of any text: the word dn, a rule's word, a value against a sign.
-/
namespace Go.Proofs.YtfkepclgadeeeaaGreatDoor
open Go.RowKit

def isDnB (x : ByteArray) : Bool := x.toList == [100, 110] || x.toList == [100, 78] || x.toList == [68, 110] || x.toList == [68, 78]
/-- a filter that is being read, in memory, behind a step: as it says, or a new fault -/
def FPost (w : World) (R F : Nat) (s : ByteArray) (k : Nat) (o : Tr F9) (e : Ending) (w' : World) : Prop :=
  Only (fun g => g = R ∨ g = F) w w' ∧ match o with
  | .ok f q => e = .returned .nilIface ∧ RdT w' R s q k ∧ FlT w' F f
  | .bad c a => ∃ g q f, e = .returned (errV g) ∧ w.heap.size ≤ g ∧ FtAt w' g c a ⟨#[]⟩ ∧ RdT w' R s q k ∧ FlT w' F f
def dnR (s : ByteArray) (f : F9) (p : Nat) : Tr F9 := (ruleR s p).bind fun x q => if isDnB x then (if f.dn then .bad 50 p else .ok { f with dn := true } q) else .ok { f with rule := x } q
def agR (s : ByteArray) (kind : Int) (f : F9) (p : Nat) : Tr F9 :=
  if hdIs 61 ((byt s).drop p) then (valR s false (p + 1)).bind fun x q => .ok { f with kind := kind, value := x } q else .bad (stuckC s p) p

theorem tDn_any (w : World) (x : ByteArray) : Calls Tryz.prog 104 #[.string x] w fun e w' => e = .returned (.bool (isDnB x)) ∧ w' = w := by
  unfold isDnB
  go_enter Tryz.func104, Tryz.ntmps104
  go_wp2
  all_goals go_ret
  all_goals refine ⟨?_, rfl⟩
  all_goals simp_all
set_option maxRecDepth 100000 in
set_option maxHeartbeats 4000000 in
theorem dn_any (w : World) (R F : Nat) (s : ByteArray) (p k : Nat) (f : F9) (hr : RdT w R s p k) (hfl : FlT w F f) (hFR : F ≠ R) (hs : s.size ≤ 140737488355328) (hp : p ≤ s.size) :
    Calls Tryz.prog 91 #[.pointer (some ⟨R, 0, none⟩), .pointer (some ⟨F, 0, none⟩)] w (FPost w R F s k (dnR s f p)) := by
  have hU := ruleR_any w R s p k hr hs hp
  have hB := tDn_any
  have hfa := fault_any
  unfold dnR
  obtain ⟨-, c1, -, -⟩ := hr.cells
  have hfh : Hid (FlT w F f) := hfl
  clear hr hfl
  generalize ruleR s p = o at hU ⊢
  cases o with
  | bad c a =>
    simp only [Tr.bind]
    go_enter Tryz.func91, Tryz.ntmps91
    go_wp2_with fail
    go_at_call 103
    refine hU.mono ?_
    rintro _ w1 ⟨o1, g, q, rfl, h1, h2, r1⟩
    unfold errV
    go_wp2
    go_ret
    exact ⟨o1.mono fun _ _ h => .inl h, g, q, f, rfl, h1, h2, r1, hfh.out.only o1 hFR⟩
  | ok x q =>
    simp only [Tr.bind]
    cases hx : isDnB x with
    | false =>
      simp only [Bool.false_eq_true, ↓reduceIte]
      go_enter Tryz.func91, Tryz.ntmps91
      go_wp2_with fail
      go_at_call 103
      refine hU.mono ?_
      rintro _ w1 ⟨o1, rfl, r1⟩
      have f1 := hfh.out.only o1 hFR
      obtain ⟨-, -, -, -, -, -, -, d7, d8, fz⟩ := f1.cells
      have fz7 := fz 7
      go_wp2_with fail
      go_at_call 104
      refine (hB w1 x).mono ?_
      rintro _ w2 ⟨rfl, rfl⟩
      rw [hx]
      go_wp2
      go_ret
      exact ⟨(o1.mono fun _ _ h => .inl h).then ((setOnly _ F 7 _).mono fun _ _ h => .inr h), rfl, r1.only (setOnly _ F 7 _) (fun e => hFR e.symm), f1.set7 x⟩
    | true =>
      cases hd : f.dn with
      | true =>
        simp only [↓reduceIte]
        go_enter Tryz.func91, Tryz.ntmps91
        go_wp2_with fail
        go_at_call 103
        refine hU.mono ?_
        rintro _ w1 ⟨o1, rfl, r1⟩
        have f1 := hfh.out.only o1 hFR
        obtain ⟨-, -, -, -, -, -, -, d7, d8, fz⟩ := f1.cells
        rw [hd] at d8
        go_wp2_with fail
        go_at_call 104
        refine (hB w1 x).mono ?_
        rintro _ w2 ⟨rfl, rfl⟩
        rw [hx]
        go_wp2_with fail
        go_at_call 39
        refine (hfa _ 50 p).mono ?_
        rintro _ w3 ⟨rfl, rfl⟩
        unfold errV
        go_wp2
        go_ret
        exact ⟨(o1.mono fun _ _ h => .inl h).alloc _, _, q, f, rfl, o1.size, heap_alloc_new _ _, r1.ext ((Ext.refl _).alloc _), f1.ext ((Ext.refl _).alloc _)⟩
      | false =>
        simp only [Bool.false_eq_true, ↓reduceIte]
        go_enter Tryz.func91, Tryz.ntmps91
        go_wp2_with fail
        go_at_call 103
        refine hU.mono ?_
        rintro _ w1 ⟨o1, rfl, r1⟩
        have f1 := hfh.out.only o1 hFR
        obtain ⟨-, -, -, -, -, -, -, d7, d8, fz⟩ := f1.cells
        rw [hd] at d8
        have fz8 := fz 8
        go_wp2_with fail
        go_at_call 104
        refine (hB w1 x).mono ?_
        rintro _ w2 ⟨rfl, rfl⟩
        rw [hx]
        go_wp2
        go_ret
        exact ⟨(o1.mono fun _ _ h => .inl h).then ((setOnly _ F 8 _).mono fun _ _ h => .inr h), rfl, r1.only (setOnly _ F 8 _) (fun e => hFR e.symm), f1.set8 true⟩
set_option maxRecDepth 100000 in
set_option maxHeartbeats 4000000 in
theorem ag_any (w : World) (R F : Nat) (s : ByteArray) (p k : Nat) (kind : Int) (f : F9) (hr : RdT w R s p k) (hfl : FlT w F f) (hFR : F ≠ R) (hs : s.size ≤ 140737488355328) (g off cap : Nat) (ht : Tab w g off cap) (hg : g ≠ R) (hG : 1 ≠ R) (hgF : g ≠ F) (hGF : 1 ≠ F) :
    Calls Tryz.prog 79 #[.pointer (some ⟨R, 0, none⟩), .pointer (some ⟨F, 0, none⟩), .int .i8 kind] w (FPost w R F s k (agR s kind f p)) := by
  have hM := must_any w R s p k 61 hr hs
  have hV := fun W (y : RdT W R s (p + 1) k) (t : Tab W g off cap) (h : p + 1 ≤ s.size) => valR_any W R s (p + 1) k false y hs h g off cap t hg hG
  unfold agR
  have hfh : Hid (FlT w F f) := hfl
  have hth : Hid (Tab w g off cap) := ht
  have hlt : hdIs 61 ((byt s).drop p) = true → p + 1 ≤ s.size := fun h => by have := hdIs_lt h; omega
  clear hr hfl ht
  generalize hdIs 61 ((byt s).drop p) = b at hM hlt ⊢
  cases b with
  | false =>
    have hP : ∀ e w', FPost w R F s k (.bad (stuckC s p) p) e w' → FPost w R F s k (if false = true then (valR s false (p + 1)).bind fun x q => .ok { f with kind := kind, value := x } q else .bad (stuckC s p) p) e w' := fun _ _ h => h
    refine Calls.mono ?_ hP
    clear hP hV
    generalize stuckC s p = c at *
    go_enter Tryz.func79, Tryz.ntmps79
    go_wp2_with fail
    go_at_call 38
    refine hM.mono ?_
    rintro _ w1 ⟨⟨v, rfl, hn⟩, r1, o1⟩
    obtain ⟨g1, rfl, h1, h2⟩ := hn.no
    unfold errV
    go_wp2
    go_ret
    exact ⟨o1.mono fun _ _ h => .inl h, g1, _, f, rfl, h1, h2, r1, hfh.out.only o1 hFR⟩
  | true =>
    have hq := hlt rfl
    simp only [↓reduceIte] at hM
    generalize valR s false (p + 1) = o at hV ⊢
    cases o with
    | bad c a =>
      have hP : ∀ e w', FPost w R F s k (.bad c a) e w' → FPost w R F s k (if true = true then (Tr.bad c a).bind fun x q => .ok { f with kind := kind, value := x } q else .bad (stuckC s p) p) e w' := fun _ _ h => h
      refine Calls.mono ?_ hP
      clear hP
      generalize stuckC s p = c0 at *
      go_enter Tryz.func79, Tryz.ntmps79
      go_wp2_with fail
      go_at_call 38
      refine hM.mono ?_
      rintro _ w1 ⟨⟨v, rfl, hn⟩, r1, o1⟩
      obtain rfl := hn.yes
      have f1 := hfh.out.only o1 hFR
      obtain ⟨d0, -, -, d3, -, -, -, -, -, fz⟩ := f1.cells
      have fz0 := fz 0
      have t1 := hth.out.only o1 (fun e => hg e) (fun e => hG e)
      have o2 : Only (fun g => g = R ∨ g = F) w w1 := o1.mono fun _ _ h => .inl h
      go_upto_region 5 with fail
      have o3 := o2.then ((setOnly w1 F 0 (.int .i8 kind)).mono fun _ _ h => .inr h)
      have r3 := r1.only (setOnly w1 F 0 (.int .i8 kind)) (fun e => hFR e.symm)
      have f3 := f1.set0 kind
      have t3 := t1.only (setOnly w1 F 0 (.int .i8 kind)) (fun e => hgF e) (fun e => hGF e)
      clear d0 d3 fz fz0 f1 r1 t1 hM
      generalize w1.setCell _ _ = w3 at o3 r3 f3 t3 ⊢
      obtain ⟨-, -, -, d3, -, -, -, -, -, fz⟩ := f3.cells
      have fz3 := fz 3
      go_wp2_with fail
      go_at_call 90
      refine (hV w3 r3 t3 hq).mono ?_
      rintro _ w4 ⟨o4, g4, q4, rfl, h1, h2, r4⟩
      have f4 := f3.only o4 hFR
      have hgF4 : g4 ≠ F := fun e => by have := f3.lt; omega
      clear d3 fz fz3 f3 r3 t3
      obtain ⟨-, -, -, d3, -, -, -, -, -, fz⟩ := f4.cells
      have fz3 := fz 3
      unfold errV
      go_wp2
      go_ret
      exact ⟨(o3.then (o4.mono fun _ _ h => .inl h)).then ((setOnly _ F 3 _).mono fun _ _ h => .inr h), g4, q4, _, rfl, Nat.le_trans o3.size h1, h2.only (setOnly _ F 3 _) hgF4, r4.only (setOnly _ F 3 _) (fun e => hFR e.symm), f4.set3 _⟩
    | ok x q =>
      have hP : ∀ e w', FPost w R F s k (.ok { f with kind := kind, value := x } q) e w' → FPost w R F s k (if true = true then (Tr.ok x q).bind fun x q => .ok { f with kind := kind, value := x } q else .bad (stuckC s p) p) e w' := fun _ _ h => h
      refine Calls.mono ?_ hP
      clear hP
      generalize stuckC s p = c0 at *
      go_enter Tryz.func79, Tryz.ntmps79
      go_wp2_with fail
      go_at_call 38
      refine hM.mono ?_
      rintro _ w1 ⟨⟨v, rfl, hn⟩, r1, o1⟩
      obtain rfl := hn.yes
      have f1 := hfh.out.only o1 hFR
      obtain ⟨d0, -, -, d3, -, -, -, -, -, fz⟩ := f1.cells
      have fz0 := fz 0
      have t1 := hth.out.only o1 (fun e => hg e) (fun e => hG e)
      have o2 : Only (fun g => g = R ∨ g = F) w w1 := o1.mono fun _ _ h => .inl h
      go_upto_region 5 with fail
      have o3 := o2.then ((setOnly w1 F 0 (.int .i8 kind)).mono fun _ _ h => .inr h)
      have r3 := r1.only (setOnly w1 F 0 (.int .i8 kind)) (fun e => hFR e.symm)
      have f3 := f1.set0 kind
      have t3 := t1.only (setOnly w1 F 0 (.int .i8 kind)) (fun e => hgF e) (fun e => hGF e)
      clear d0 d3 fz fz0 f1 r1 t1 hM
      generalize w1.setCell _ _ = w3 at o3 r3 f3 t3 ⊢
      obtain ⟨-, -, -, d3, -, -, -, -, -, fz⟩ := f3.cells
      have fz3 := fz 3
      go_wp2_with fail
      go_at_call 90
      refine (hV w3 r3 t3 hq).mono ?_
      rintro _ w4 ⟨o4, rfl, r4⟩
      have f4 := f3.only o4 hFR
      clear d3 fz fz3 f3 r3 t3
      obtain ⟨-, -, -, d3, -, -, -, -, -, fz⟩ := f4.cells
      have fz3 := fz 3
      go_wp2
      go_ret
      exact ⟨(o3.then (o4.mono fun _ _ h => .inl h)).then ((setOnly _ F 3 _).mono fun _ _ h => .inr h), rfl, r4.only (setOnly _ F 3 _) (fun e => hFR e.symm), f4.set3 _⟩
end Go.Proofs.YtfkepclgadeeeaaGreatDoor

/-
  The program's reader of any text: an extensible item behind its description.
-/
namespace Go.Proofs.YtfkepclgadeeeaaGreatDoor
open Go.RowKit

def ruGo (s : ByteArray) : Nat → F9 → Nat → Tr F9
  | 0, _, p => .bad (stuckC s p) p
  | n + 1, f, p => if hdIs 58 ((byt s).drop p) then
      if (!f.desc.toList.isEmpty || !f.rule.toList.isEmpty) && hdIs 61 ((byt s).drop (p + 1)) then (valR s false (p + 2)).bind fun x q => .ok { f with value := x } q
      else if !f.rule.toList.isEmpty then .bad (stuckC s (p + 1)) (p + 1)
      else (dnR s f (p + 1)).bind fun f' q => ruGo s n f' q
    else .bad (stuckC s p) p
def ruledR (s : ByteArray) (f : F9) (p : Nat) : Tr F9 := ruGo s (s.size + 1) { f with kind := 9 } p
theorem dnR_le {s : ByteArray} {f : F9} {p : Nat} (hp : p ≤ s.size) {x : F9} {q : Nat} (h : dnR s f p = .ok x q) : p ≤ q ∧ q ≤ s.size := by
  unfold dnR at h
  cases e : ruleR s p with
  | bad c a => rw [e] at h; cases h
  | ok y r =>
    have := ruleR_le hp e
    rw [e] at h
    simp only [Tr.bind] at h
    split at h
    · split at h
      · cases h
      · cases h; exact this
    · cases h; exact this
/-- what stands between two words of an extensible item -/
structure RuI (w : World) (R F : Nat) (s : ByteArray) (k : Nat) (o : Tr F9) (n : Nat) (f : F9) (p : Nat) (wr : World) : Prop where
  rd : RdT wr R s p k
  fl : FlT wr F f
  on : Only (fun g => g = R ∨ g = F) w wr
  le : p ≤ s.size
  ms : s.size - p < n
  eq : o = ruGo s n f p

set_option maxRecDepth 100000 in
set_option maxHeartbeats 8000000 in
theorem ru_any (w : World) (R F : Nat) (s : ByteArray) (p k : Nat) (f : F9) (hr : RdT w R s p k) (hfl : FlT w F f) (hFR : F ≠ R) (hs : s.size ≤ 140737488355328) (hp : p ≤ s.size) (g off cap : Nat) (ht : Tab w g off cap) (hg : g ≠ R) (hG : 1 ≠ R) (hgF : g ≠ F) (hGF : 1 ≠ F) :
    Calls Tryz.prog 80 #[.pointer (some ⟨R, 0, none⟩), .pointer (some ⟨F, 0, none⟩)] w (FPost w R F s k (ruledR s f p)) := by
  obtain ⟨o, ho⟩ : ∃ o, o = ruledR s f p := ⟨_, rfl⟩
  rw [← ho]
  have hI : Hid (RuI w R F s k o (s.size + 1) { f with kind := 9 } p (w.setCell ⟨F, 0, none⟩ (.int .i8 9))) := ⟨hr.only (setOnly w F 0 _) (fun e => hFR e.symm), hfl.set0 9, (setOnly w F 0 _).mono fun _ _ h => .inr h, hp, by omega, ho⟩
  have hlw := hfl.lt
  have hth : Hid (Tab w g off cap) := ht
  have hT := fun W q (y : RdT W R s q k) => take_any W R s q k 58 y hs
  have hT2 := fun W q (y : RdT W R s q k) => take_any W R s q k 61 y hs
  have hV := fun W q (y : RdT W R s q k) (t : Tab W g off cap) (h : q ≤ s.size) => valR_any W R s q k false y hs h g off cap t hg hG
  have hD := fun W q f (y : RdT W R s q k) (z : FlT W F f) (h : q ≤ s.size) => dn_any W R F s q k f y z hFR hs h
  have hC := fun W q (y : RdT W R s q k) => cannotStand_any W R s q k y
  obtain ⟨d0, -, -, -, -, -, -, -, -, fz⟩ := hfl.cells
  have fz0 := fz 0
  clear hr hfl ht ho hp fz
  go_enter Tryz.func80, Tryz.ntmps80
  go_wp2_with fail
  go_step3
  go_wp2_with fail
  go_step3
  go_wp2_with fail
  clear d0 fz0
  generalize w.setCell _ _ = w0 at hI ⊢
  go_loopg [4] (s.size + 1) (fun n _ wr => ∃ (f : F9) (p : Nat), Hid (RuI w R F s k o n f p wr))
  case atStart => exact ⟨_, p, hI⟩
  case round =>
    clear hI
    obtain ⟨f, p, hI⟩ := hrel
    obtain ⟨r1, f1, o1, hp, hm, he⟩ := hI.out
    have heh : Hid (o = ruGo s gk f p) := he
    obtain ⟨gm, rfl⟩ : ∃ gm, gk = gm + 1 := ⟨gk - 1, by omega⟩
    have ht1 := hth.out.only o1 (fun e => e.elim hg hgF) (fun e => e.elim hG hGF)
    have ht1h : Hid (Tab wr g off cap) := ht1
    clear hI he ht1
    by_cases hc : hdIs 58 ((byt s).drop p) = true
    · have hlt := hdIs_lt hc
      have hA := hT wr p r1
      rw [hc] at hA
      simp only [↓reduceIte] at hA
      clear r1
      go_wp2_with fail
      go_at_call 52
      refine hA.mono ?_
      rintro _ w2 ⟨rfl, r2, x2⟩
      have f2 := f1.only x2 hFR
      have o2 := o1.then (x2.mono fun _ _ h => .inl h)
      have ht2 : Hid (Tab w2 g off cap) := ht1h.out.only x2 hg hG
      clear hA f1 o1 x2 ht1h
      obtain ⟨-, -, d2, -, -, -, -, d7, -, fz⟩ := f2.cells
      have hB := hT2 w2 (p + 1) r2
      have hp1 : p + 1 ≤ s.size := by omega
      by_cases hq : ((!f.desc.toList.isEmpty || !f.rule.toList.isEmpty) && hdIs 61 ((byt s).drop (p + 1))) = true
      · have hqh := hq
        rw [Bool.and_eq_true] at hq
        obtain ⟨hq1, hq2⟩ := hq
        have hlt2 := hdIs_lt hq2
        rw [hq2] at hB
        simp only [↓reduceIte] at hB
        have heq : o = (valR s false (p + 2)).bind fun x q => .ok { f with value := x } q := by rw [heh.out, ruGo, if_pos hc, if_pos hqh]
        have hVo := fun W (y : RdT W R s (p + 2) k) (t : Tab W g off cap) => hV W (p + 2) y t (by omega)
        have heqh : Hid (o = _) := heq
        clear heq heh hqh hV
        have hcs : f.desc.toList.isEmpty = false ∨ (f.desc.toList.isEmpty = true ∧ f.rule.toList.isEmpty = false) := by
          cases h1 : f.desc.toList.isEmpty
          · exact .inl rfl
          · rw [h1] at hq1; exact .inr ⟨rfl, by simpa using hq1⟩
        clear hq1 hq2
        have hfin : ∀ W, RdT W R s (p + 2) k → FlT W F f → Only (fun g => g = R ∨ g = F) w W → Tab W g off cap → Calls Tryz.prog 90 #[.pointer (some ⟨R, 0, none⟩), .bool false] W fun e w' => ∃ x v, e = .returned (.tuple #[.string x, v]) ∧ FlT w' F f ∧ ∀ W2, W2 = w'.setCell ⟨F, 3, none⟩ (.string x) → FPost w R F s k o (.returned v) W2 := by
          intro W y1 y2 y3 y4
          refine (hVo W y1 y4).mono fun e w' h => ?_
          rw [heqh.out]
          generalize valR s false (p + 2) = u at h
          cases u with
          | ok x q =>
            obtain ⟨o4, rfl, r4⟩ := h
            have f4 := y2.only o4 hFR
            refine ⟨x, .nilIface, rfl, f4, fun W2 hW => ?_⟩
            subst hW
            exact ⟨(y3.then (o4.mono fun _ _ h => .inl h)).then ((setOnly _ F 3 _).mono fun _ _ h => .inr h), rfl, r4.only (setOnly _ F 3 _) (fun e => hFR e.symm), f4.set3 _⟩
          | bad c a =>
            obtain ⟨o4, g4, q4, rfl, h1, h2, r4⟩ := h
            have f4 := y2.only o4 hFR
            have hgF4 : g4 ≠ F := fun e => by have := y2.lt; omega
            refine ⟨⟨#[]⟩, errV g4, rfl, f4, fun W2 hW => ?_⟩
            subst hW
            exact ⟨(y3.then (o4.mono fun _ _ h => .inl h)).then ((setOnly _ F 3 _).mono fun _ _ h => .inr h), g4, q4, _, rfl, Nat.le_trans y3.size h1, h2.only (setOnly _ F 3 _) hgF4, r4.only (setOnly _ F 3 _) (fun e => hFR e.symm), f4.set3 _⟩
        clear hVo heqh
        rcases hcs with hde | ⟨hde, hru⟩
        all_goals (
          go_wp2_with fail
          go_at_call 52
          refine hB.mono ?_
          rintro _ w3 ⟨rfl, r3, x3⟩
          have f3 := f2.only x3 hFR
          have o3 := o2.then (x3.mono fun _ _ h => .inl h)
          have t3 := ht2.out.only x3 hg hG
          go_wp2_with fail
          go_at_call 90
          refine (hfin w3 r3 f3 o3 t3).mono ?_
          rintro _ w4 ⟨x, v, rfl, f4, h4⟩
          have hz : Hid (FPost w R F s k o (.returned v) (w4.setCell ⟨F, 3, none⟩ (.string x))) := h4 _ rfl
          clear d2 d7 fz
          obtain ⟨-, -, -, d3, -, -, -, -, -, fz⟩ := f4.cells
          have fz3 := fz 3
          go_wp2
          try rw [Exit.noGoto_ret]
          go_ret
          exact hz.out)
      · have hqh := hq
        have hB : hdIs 61 ((byt s).drop (p + 1)) = false → Calls Tryz.prog 52 #[.pointer (some ⟨R, 0, none⟩), .int .u8 (UInt8.toNat 61)] w2 fun e w' => e = .returned (.bool false) ∧ RdT w' R s (p + 1) k ∧ Only (fun g => g = R) w2 w' := fun h => by
          rw [h] at hB
          simpa only [Bool.false_eq_true, ↓reduceIte] using hB
        have hle := fun f' q => dnR_le (s := s) (f := f) (x := f') (q := q) hp1
        cases hru : f.rule.toList.isEmpty with
        | false =>
          have heq : o = .bad (stuckC s (p + 1)) (p + 1) := by rw [heh.out, ruGo, if_pos hc, if_neg hqh, if_pos (by rw [hru]; rfl)]
          have hz : Hid (o = _) := heq
          have h61 : hdIs 61 ((byt s).drop (p + 1)) = false := by
            rw [hru] at hq
            simpa using hq
          clear heq heh hqh hq hle
          cases hde : f.desc.toList.isEmpty
          all_goals (
          go_wp2_with fail
          go_at_call 52
          refine (hB h61).mono ?_
          rintro _ w3 ⟨rfl, r3, x3⟩
          have f3 := f2.only x3 hFR
          have o3 := o2.then (x3.mono fun _ _ h => .inl h)
          have t3 := ht2.out.only x3 hg hG
          clear d2 d7 fz
          obtain ⟨-, -, d2, -, -, -, -, d7, -, fz⟩ := f3.cells
          go_wp2_with fail
          go_at_call 23
          refine (hC w3 (p + 1) r3).mono ?_
          rintro _ w4 ⟨⟨g4, rfl, h1, h2⟩, x4⟩
          unfold errV
          go_wp2
          try rw [Exit.noGoto_ret]
          go_ret
          rw [hz.out]
          exact ⟨o3.ext x4, g4, p + 1, f, rfl, Nat.le_trans o3.size h1, h2, r3.ext x4, f3.ext x4⟩)
        | true =>
          have heq0 : o = (dnR s f (p + 1)).bind fun f' q => ruGo s gm f' q := by rw [heh.out, ruGo, if_pos hc, if_neg hqh, if_neg (by rw [hru]; decide)]
          have heq : Hid (o = (dnR s f (p + 1)).bind fun f' q => ruGo s gm f' q) := heq0
          clear heq0 heh hqh
          cases hde : f.desc.toList.isEmpty with
          | false =>
            have h61 : hdIs 61 ((byt s).drop (p + 1)) = false := by
              rw [hde] at hq
              simpa using hq
            clear hq
            go_wp2_with fail
            go_at_call 52
            refine (hB h61).mono ?_
            rintro _ w3 ⟨rfl, r3, x3⟩
            have f3 := f2.only x3 hFR
            have o3 := o2.then (x3.mono fun _ _ h => .inl h)
            have t3 := ht2.out.only x3 hg hG
            clear d2 d7 fz
            obtain ⟨-, -, d2, -, -, -, -, d7, -, fz⟩ := f3.cells
            go_wp2_with fail
            go_at_call 91
            refine (hD w3 (p + 1) f r3 f3 hp1).mono ?_
            have hth4 : Hid (Tab w3 g off cap) := t3
            have o4h := o3
            generalize dnR s f (p + 1) = u at heq hle
            intro e w4 h
            cases u with
            | ok f' q =>
              obtain ⟨o4, rfl, r4, f4⟩ := h
              have o5 := o4h.then o4
              have hq := hle f' q rfl
              go_wp2
              go_roundg gm
              case measure => omega
              case rel => exact ⟨f', q, r4, f4, o5, hq.2, by omega, heq.out⟩
            | bad c a =>
              obtain ⟨o4, g4, q4, f', rfl, h1, h2, r4, f4⟩ := h
              have hz : Hid (FPost w R F s k o (.returned (errV g4)) w4) := by
                rw [heq.out]
                exact ⟨o4h.then o4, g4, q4, f', rfl, Nat.le_trans o4h.size h1, h2, r4, f4⟩
              unfold errV at hz ⊢
              go_wp2
              try rw [Exit.noGoto_ret]
              go_ret
              exact hz.out
          | true =>
            clear hq
            go_wp2_with fail
            go_at_call 91
            refine (hD w2 (p + 1) f r2 f2 hp1).mono ?_
            have hth4 : Hid (Tab w2 g off cap) := ht2.out
            have o4h := o2
            generalize dnR s f (p + 1) = u at heq hle
            intro e w4 h
            cases u with
            | ok f' q =>
              obtain ⟨o4, rfl, r4, f4⟩ := h
              have o5 := o4h.then o4
              have hq := hle f' q rfl
              go_wp2
              go_roundg gm
              case measure => omega
              case rel => exact ⟨f', q, r4, f4, o5, hq.2, by omega, heq.out⟩
            | bad c a =>
              obtain ⟨o4, g4, q4, f', rfl, h1, h2, r4, f4⟩ := h
              have hz : Hid (FPost w R F s k o (.returned (errV g4)) w4) := by
                rw [heq.out]
                exact ⟨o4h.then o4, g4, q4, f', rfl, Nat.le_trans o4h.size h1, h2, r4, f4⟩
              unfold errV at hz ⊢
              go_wp2
              try rw [Exit.noGoto_ret]
              go_ret
              exact hz.out
    · have hcf : hdIs 58 ((byt s).drop p) = false := by simpa using hc
      have hA := hT wr p r1
      rw [hcf] at hA
      simp only [Bool.false_eq_true, ↓reduceIte] at hA
      clear r1
      go_wp2_with fail
      go_at_call 52
      refine hA.mono ?_
      rintro _ w2 ⟨rfl, r2, x2⟩
      have f2 := f1.only x2 hFR
      have o2 := o1.then (x2.mono fun _ _ h => .inl h)
      clear hA f1 o1 x2
      go_wp2_with fail
      go_at_call 23
      refine (hC w2 p r2).mono ?_
      rintro _ w3 ⟨⟨g3, rfl, h1, h2⟩, x3⟩
      unfold errV
      go_wp2
      try rw [Exit.noGoto_ret]
      go_ret
      rw [heh.out, ruGo, hcf]
      exact ⟨o2.ext x3, g3, p, f, rfl, Nat.le_trans o2.size h1, h2, r2.ext x3, f2.ext x3⟩
end Go.Proofs.YtfkepclgadeeeaaGreatDoor
