/-
  rosterref06.Same at two names that hold the same pairs.
-/
import Derived.Test.YtfiijlmpfpmgiaaGreatDoorNparseToShelf3
import Derived.Deep.QuietTactic
import Derived.BigQuiet
import Derived.Test.YtfiijlmpfpmgiaaGreatDoorNpd2
import Derived.Test.YtfiijlmpfpmgiaaGreatDoorNkpToNspo
import Derived.Test.YtfiijlmpfpmgiaaGreatDoorNal
import Derived.Laws.StructEq
namespace Go.Proofs.YtfiijlmpfpmgiaaGreatDoor
open Go.RowKit

/-- what a name's part k is -/
theorem NmIn.part {w : World} {a : Option Addr} {n c : Nat} {us : List Value} {pts : List (List Av)} (h : NmIn w (.slice a n c) us pts) (k : Nat) (hk : k < n) : ∃ g o ua un uc, a = some ⟨g, o, none⟩ ∧ w.cell? ⟨g, o + k, none⟩ = some (.slice ua un uc) ∧ ∃ h : k < pts.length, AvSl w (.slice ua un uc) pts[k] ∧ un = pts[k].length := by
  have hn := h.sl.len.1
  have hku : k < us.length := by omega
  have hkp : k < pts.length := by have := h.len; omega
  obtain ⟨g, o, e, hc⟩ := h.sl.at k hku
  have hp := h.pts k hku hkp
  obtain ⟨ua, un, uc, hu, hun, _⟩ := hp.shape
  refine ⟨g, o, ua, un, uc, e, ?_, hkp, ?_, hun.out⟩
  · rw [hc, ← hu]; rfl
  · rw [← hu]; exact hp
set_option maxRecDepth 100000 in
set_option maxHeartbeats 4000000 in
theorem Same_true (w : World) (va vb : Value) (us ub : List Value) (pts : List (List Av)) (ha : NmIn w va us pts) (hb : NmIn w vb ub pts) :
    Calls Tryz.prog 7 #[.agg #[va], .agg #[vb]] w fun e w' => e = .returned (.bool true) ∧ Ext w w' := by
  obtain ⟨a, n, c, rfl, hn⟩ := ha.sl.shape
  obtain ⟨b, m, d, rfl, hm⟩ := hb.sl.shape
  obtain rfl : n = m := by have := hn.out; have := hm.out; have := ha.len; have := hb.len; omega
  obtain ⟨h1, hnc, hcm⟩ := ha.sl.len
  obtain ⟨h2, hnd, hdm⟩ := hb.sl.len
  have hnm : n ≤ 9223372036854775807 := by unfold maxLen at hcm; omega
  have hah : Hid (NmIn w (.slice a n c) us pts) := ha
  have hbh : Hid (NmIn w (.slice b n d) ub pts) := hb
  clear ha hb h1 h2 hn hm hcm hdm
  go_enter Tryz.func7, Tryz.ntmps7
  have hx0 : Ext w ((w.alloc (.cells #[.slice a n c] 24)).alloc (.cells #[.slice b n d] 24)) := ((Ext.refl w).alloc _).alloc _
  have hca : ((w.alloc (.cells #[.slice a n c] 24)).alloc (.cells #[.slice b n d] 24)).cell? ⟨w.heap.size, 0, none⟩ = some (.slice a n c) := by simp
  have hcb : ((w.alloc (.cells #[.slice a n c] 24)).alloc (.cells #[.slice b n d] 24)).cell? ⟨w.heap.size + 1, 0, none⟩ = some (.slice b n d) := by simp
  go_wp2
  generalize (w.alloc (.cells #[.slice a n c] 24)).alloc (.cells #[.slice b n d] 24) = W0 at *
  go_loopw [5] (fun i wr => ∃ k : Nat, k ≤ n ∧ i = .int .i64 k ∧ Hid (Ext W0 wr)) (fun i _ => n - (intOf i).toNat)
  case atStart => exact ⟨0, Nat.zero_le _, rfl, Ext.refl _⟩
  case round =>
    obtain ⟨k, hk, rfl, hx⟩ := hrel
    have ka := hx.out.cell hca
    have kb := hx.out.cell hcb
    by_cases hlt : k < n
    · have hlt' : (k : Int) < (n : Int) := by omega
      obtain ⟨g1, o1, ua, un, uc, rfl, c1, hkp, av, hun⟩ := (hah.out.ext (hx0.trans hx.out)).part k hlt
      obtain ⟨g2, o2, ua2, un2, uc2, rfl, c2, _, av2, hun2⟩ := (hbh.out.ext (hx0.trans hx.out)).part k hlt
      obtain rfl : un = un2 := by omega
      have hav : Hid (AvSl wr (.slice ua un uc) pts[k]) := av
      have hav2 : Hid (AvSl wr (.slice ua2 un uc2) pts[k]) := av2
      have hunh : Hid (un = pts[k].length) := hun
      have hunm : un ≤ 9223372036854775807 := by obtain ⟨_, _, e, h1, h2, _⟩ := av; unfold maxLen at h2; omega
      have hua : un ≤ uc := by obtain ⟨_, _, e, h1, h2, _⟩ := av; simp only [Value.slice.injEq] at e; omega
      have hua2 : un ≤ uc2 := by obtain ⟨_, _, e, h1, h2, _⟩ := av2; simp only [Value.slice.injEq] at e; omega
      clear av av2 hun hun2
      go_wp2
      go_loopw [8] (fun i w2 => ∃ j : Nat, j ≤ un ∧ i = .int .i64 j ∧ Hid (Ext wr w2)) (fun i _ => un - (intOf i).toNat)
      case atStart => exact ⟨0, Nat.zero_le _, rfl, Ext.refl _⟩
      case round =>
        rename_i w2
        obtain ⟨j, hj, rfl, hx2⟩ := hrel
        by_cases hjl : j < un
        · have hjl' : (j : Int) < (un : Int) := by omega
          have hjp : j < pts[k].length := by have := hunh.out; omega
          obtain ⟨g3, o3, rfl, d1, d2⟩ := (hav.out.ext hx2.out).at j hjp
          obtain ⟨g4, o4, rfl, d3, d4⟩ := (hav2.out.ext hx2.out).at j hjp
          obtain ⟨A, hA⟩ : ∃ A, Hid (A = pts[k][j]) := ⟨pts[k][j], (rfl : pts[k][j] = pts[k][j])⟩
          rw [← hA.out] at d1 d2 d3 d4
          obtain ⟨t, v⟩ := A
          simp only at d1 d2 d3 d4
          clear hav hav2 hah hbh
          go_wp2
          go_quiet (fail)
          go_wp2
          exact ⟨⟨j + 1, hjl, by go_num, hx2.out.drewN _⟩, by simp [intOf]; omega⟩
        · have hjl' : ¬ (j : Int) < (un : Int) := by omega
          go_wp2
          go_roundw
          case rel => exact ⟨k + 1, hlt, by go_num, hx.out.trans hx2.out⟩
          case measure => simp [intOf]; omega
    · have hlt' : ¬ (k : Int) < (n : Int) := by omega
      go_wp2
      go_ret
      exact ⟨rfl, hx0.trans hx.out⟩
end Go.Proofs.YtfiijlmpfpmgiaaGreatDoor

/-
  NameParses: what both answer of a text, told in one way; names that lie beside one that is written over.
-/
namespace Go.Proofs.YtfiijlmpfpmgiaaGreatDoor
open Go.RowKit

theorem NmOwn.extP {w w' : World} {B : Nat} {v : Value} {pts : List (List Av)} {us : List Value} (h : NmOwn w B v pts us) (x : Ext w w') : NmOwn w' B v pts us := ⟨h.row.ext x, h.pln, fun i a b => (h.new i a b).ext x, h.apart⟩
theorem NmOwn.keptP {S : Nat → Prop} {w w' : World} {B : Nat} {v : Value} {pts : List (List Av)} {us : List Value} (h : NmOwn w B v pts us) (k : Only S w w') (hS : ∀ b, B ≤ b → ¬ S b) : NmOwn w' B v pts us :=
  ⟨h.row.kept k hS, h.pln, fun i a b => (h.new i a b).kept k hS, h.apart⟩
theorem NmOwn.nameP {w : World} {B : Nat} {v : Value} {pts : List (List Av)} {us : List Value} (h : NmOwn w B v pts us) : NmIn w v us pts := by
  refine ⟨?_, h.pln, fun i a b => row_avsl (h.new i a b)⟩
  refine RowE.sl (e := 45) (S := fun k => B ≤ k) ?_
  have := h.row
  unfold RowE
  simpa using this
theorem NmOwn.footP {w : World} {B : Nat} {v : Value} {pts : List (List Av)} {us : List Value} (h : NmOwn w B v pts us) (b : Nat) (hb : footN v us b) : B ≤ b ∧ b < w.heap.size := by
  rcases hb with hb | ⟨i, hi, hb⟩
  · exact ⟨h.row.2 b hb, h.row.lt hb⟩
  · have hp : i < pts.length := by rw [← h.pln]; exact hi
    exact ⟨(h.new i hi hp).2 b hb, (h.new i hi hp).lt hb⟩
theorem nmOwn_nilP (w : World) (B : Nat) : NmOwn w B (.slice none 0 0) [] [] := ⟨row_nil _ _ _ _, rfl, fun i h => by simp at h, fun i j h => by simp at h⟩
/-- a name that stood lies below what is written -/
theorem NmIn.low {S : Nat → Prop} {w0 W W' : World} {v : Value} {us : List Value} {pts : List (List Av)} (h : NmIn w0 v us pts) (x0 : Ext w0 W) (x : Only S W W') (hS : ∀ k, S k → w0.heap.size ≤ k) : NmIn W' v us pts := by
  refine ⟨?_, h.len, fun i a b => ?_⟩
  · obtain ⟨a, cap, rfl, h1, h2, h3⟩ := h.sl
    refine ⟨a, cap, rfl, h1, h2, fun j hj => ?_⟩
    obtain ⟨g, o, e, hc⟩ := h3 j hj
    refine ⟨g, o, e, x.cell (x0.cell hc) (fun hs => ?_)⟩
    have h5 := hS _ hs
    have h6 := World.block_lt_of_cell? w0 _ hc
    simp only at h5 h6
    omega
  · refine ((h.pts i a b).ext x0).only x (fun ad n c e hn hs => ?_)
    have h5 := hS _ hs
    have h6 := (h.pts i a b).inOld ad n c e hn
    omega
theorem go_code (s : ByteArray) : ∀ (f st : Nat) (r : RS) (o : Int × RS), rGo s f st r = some o → 0 ≤ o.1
  | 0, _, _, _, h => by simp [rGo] at h
  | f + 1, 0, r, o, h => by
    rw [rGo] at h
    split at h
    · cases h; exact Int.le_refl _
    · exact go_code s f _ _ _ h
  | f + 1, 1, r, o, h => by
    rw [rGo] at h
    split at h
    · exact go_code s f _ _ _ h
    · cases h
      unfold ttP
      split
      · exact (by decide : (0 : Int) ≤ 5)
      · split
        · exact (by decide : (0 : Int) ≤ 50)
        · exact Int.le_refl _
  | f + 1, 2, r, o, h => by
    rw [rGo] at h
    split at h
    · cases h; exact (by decide : (0 : Int) ≤ 50)
    · exact go_code s f _ _ _ h
  | f + 1, n + 3, r, o, h => by
    rw [rGo] at h
    split at h
    · split at h
      · cases h
        unfold epP
        split
        · show 0 ≤ (if r.prs.length + 1 = 8 then (3 : Int) else 0); split <;> decide
        · show 0 ≤ (if bAt s r.pos = 44 ∧ r.pts.length + 1 = 64 then (3 : Int) else 0); split <;> decide
      · exact go_code s f _ _ _ h
    · split at h
      · exact go_code s f _ _ _ h
      · cases h
        show 0 ≤ (tvP s r.pos).1
        unfold tvP
        repeat' split
        all_goals first | exact (by decide : (0 : Int) ≤ 11) | exact (by decide : (0 : Int) ≤ 50) | exact Int.le_refl _
/-- the fault of an error is this one -/
def FaOk (W : World) (iv : Value) (C P : Nat) (Wd : ByteArray) : Prop := ∀ W', Ext W W' → Calls Tryz.prog 6 #[iv] W' fun e w' => e = .returned (.tuple #[.agg #[.int .i64 (C : Int), .int .i64 (P : Int), .string Wd], .bool true]) ∧ Ext W' w'
theorem FaOk.ext {W W' : World} {iv : Value} {C P : Nat} {Wd : ByteArray} (h : FaOk W iv C P Wd) (x : Ext W W') : FaOk W' iv C P Wd := fun W2 x2 => h W2 (x.trans x2)
/-- what both answer -/
structure Both (w : World) (s : ByteArray) (C P : Nat) (Wd : ByteArray) (pts : List (List Av)) : Prop where
  doc : ∀ W, Ext w W → Calls Tryz.prog 4 #[.string s] W fun e w' => ∃ a n c, e = .returned (.tuple #[.agg #[.slice a n c], .agg #[.int .i64 (C : Int), .int .i64 (P : Int), .string Wd]]) ∧ Hid (∃ us, NmIn w' (.slice a n c) us pts) ∧ Hid (Ext W w')
  par : ∀ W, Ext w W → Calls Tryz.prog 5 #[.string s] W fun e w' => ∃ a n c iv, e = .returned (.tuple #[.agg #[.slice a n c], iv]) ∧ Hid (∃ us, NmOwn w' W.heap.size (.slice a n c) pts us) ∧ Hid (FaOk w' iv C P Wd) ∧ Hid (Ext W w')
  bl : pts.length ≤ 500000000
  bc : ∀ i (h : i < pts.length), pts[i].length ≤ 500000000
theorem both_any (w : World) (ht : HasTab w) (he : ErrT w) (s : ByteArray) : ∃ C P Wd pts, Both w s C P Wd pts := by
  by_cases hl : 65536 < s.size
  · refine ⟨3, 0, ⟨#[]⟩, [], fun W x => ?_, fun W x => ?_, by simp, fun i h => by simp at h⟩
    · refine (refParse_long W s hl).mono ?_
      rintro _ w' ⟨rfl, y⟩
      exact ⟨_, _, _, rfl, ⟨[], (nmOwn_nilP w' 0).nameP⟩, y⟩
    · refine (Parse_longF W s hl).mono ?_
      rintro _ w' ⟨g, rfl, hg, y⟩
      refine ⟨_, _, _, _, rfl, ⟨[], nmOwn_nilP _ _⟩, fun W' x' => ?_, y⟩
      have hf : FtAt W' g 3 0 ⟨#[]⟩ := (x'.block g (Array.getElem?_eq_some_iff.1 hg).1).trans hg
      exact fault_hit W' g 3 0 ⟨#[]⟩ (he.ext ((x.trans y).trans x')) hf (by decide)
  · have hs : s.size ≤ 65536 := by omega
    have hdoc : ∀ W, Calls Tryz.prog 4 #[.string s] W fun e w' => DocQ s W e w' := fun W => by
      by_cases h0 : s.size = 0
      · exact refParse_empty W s h0
      · exact refParse_some W s hs (by omega)
    obtain ⟨o, ho⟩ := go_total s (4 * s.size + 4) 0 ⟨0, ⟨#[]⟩, 0, [], []⟩ (Nat.zero_le _) (by omega) (by show 4 * (s.size - 0) + (3 - 0) < _; omega)
    have hc := go_code s _ _ _ _ ho
    by_cases hz : o.1 = 0
    · have hE : Ends s 0 ⟨0, ⟨#[]⟩, 0, [], []⟩ (0, o.2) := ⟨_, by rw [ho]; congr 1; exact Prod.ext hz rfl⟩
      have hto := ends_took hE
      refine ⟨0, 0, ⟨#[]⟩, o.2.pts, fun W x => ?_, fun W x => ?_, by have := hto.1; omega, fun i h => by have := (hto.2.1 _ (List.getElem_mem h)).2.1; omega⟩
      · refine (hdoc W).mono ?_
        rintro e w' ⟨y, o', ⟨f', hf'⟩, hd⟩
        obtain rfl := rGo_one s hf' ho
        rcases hd with ⟨_, qv, rfl, hn⟩ | ⟨h0, _⟩
        · obtain ⟨us, hu⟩ := hn.names
          obtain ⟨a, n, c, rfl, _⟩ := hu.sl.shape
          exact ⟨a, n, c, rfl, ⟨us, hu⟩, y⟩
        · exact absurd hz h0
      · obtain ⟨g, off, cap, hT⟩ := ht.ext6 x
        refine (Parse_own W s hs g off cap hT (fun k _ => runSize_any _ (by rw [ByteArray.size_extract]; omega)) _ o.2 (by rw [ho]; congr 1; exact Prod.ext hz rfl)).mono ?_
        rintro _ w' ⟨qv, us, rfl, ⟨hr, hp⟩, y⟩
        obtain ⟨a, c, rfl⟩ := row_slice hr
        exact ⟨a, _, c, _, rfl, ⟨us, own_of_rows hr hp⟩, fun W' _ => fault_none W', y⟩
    · obtain ⟨C, hC⟩ : ∃ C : Nat, o.1 = (C : Int) := ⟨o.1.toNat, by omega⟩
      refine ⟨C, o.2.pos, fwD s o.2.pos, [], fun W x => ?_, fun W x => ?_, by simp, fun i h => by simp at h⟩
      · refine (hdoc W).mono ?_
        rintro e w' ⟨y, o', ⟨f', hf'⟩, hd⟩
        obtain rfl := rGo_one s hf' ho
        rcases hd with ⟨h0, _⟩ | ⟨_, rfl⟩
        · exact absurd h0 hz
        · exact ⟨_, _, _, by rw [hC], ⟨[], (nmOwn_nilP w' 0).nameP⟩, y⟩
      · obtain ⟨g, off, cap, hT⟩ := ht.ext6 x
        refine (Parse_badF W s hs g off cap hT _ o hz ho).mono ?_
        rintro _ w' ⟨g', rfl, hg, y⟩
        refine ⟨_, _, _, _, rfl, ⟨[], nmOwn_nilP _ _⟩, fun W' x' => ?_, y⟩
        rw [hC] at hg
        have hf : FtAt W' g' C o.2.pos (fwD s o.2.pos) := (x'.block g' (Array.getElem?_eq_some_iff.1 hg).1).trans hg
        exact fault_hit W' g' C o.2.pos _ (he.ext ((x.trans y).trans x')) hf (by omega)
end Go.Proofs.YtfiijlmpfpmgiaaGreatDoor

/-
  NameParses, walked (given the tables).
-/
namespace Go.Proofs.YtfiijlmpfpmgiaaGreatDoor
open Go.RowKit

theorem ext_blockP {w w' : World} (x : Ext w w') {g : Nat} {o : Obj} (h : w.heap[g]? = some o) : w'.heap[g]? = some o := (x.block g (Array.getElem?_eq_some_iff.1 h).1).trans h
theorem neq_ft (C P : Int) (Wd : ByteArray) (W : World) : (binOp .neq 27 (.agg #[.int .i64 C, .int .i64 P, .string Wd]) (.agg #[.int .i64 C, .int .i64 P, .string Wd])).run Tryz.prog W = .ok (.bool false) W := by
  have ht : Tryz.prog.underlying 27 = some (.struct (Tryz.prog.fieldsOf 27)) := by kernel_rfl
  have hp : Tryz.prog.stoodInHeld 27 = false := by kernel_rfl
  have h1 := run_equalIn_struct (P := Tryz.prog) W 9999 27 #[.int .i64 C, .int .i64 P, .string Wd] #[.int .i64 C, .int .i64 P, .string Wd] ht hp
  rw [run_neq_struct, h1]
  have hf : (Tryz.prog.fieldsOf 27).toList.map (fun f => (f.type, f.offset)) = [(25, 0), (3, 1), (9, 2)] := by kernel_rfl
  obtain ⟨f0, f1, f2, hfs, ⟨t0, o0⟩, ⟨t1, o1⟩, ⟨t2, o2⟩⟩ : ∃ f0 f1 f2, (Tryz.prog.fieldsOf 27).toList = [f0, f1, f2] ∧ (f0.type = 25 ∧ f0.offset = 0) ∧ (f1.type = 3 ∧ f1.offset = 1) ∧ (f2.type = 9 ∧ f2.offset = 2) := by
    generalize (Tryz.prog.fieldsOf 27).toList = L at hf ⊢
    match L, hf with
    | [], hf => simp at hf
    | [_], hf => simp at hf
    | [_, _], hf => simp at hf
    | [f0, f1, f2], hf =>
      simp only [List.map_cons, List.map_nil, List.cons.injEq, Prod.mk.injEq, and_true] at hf
      exact ⟨f0, f1, f2, rfl, hf.1, hf.2.1, hf.2.2⟩
    | _ :: _ :: _ :: _ :: _, hf => simp at hf
  rw [hfs]
  have p0 : ∀ W, (part 25 #[.int .i64 C, .int .i64 P, .string Wd] 0).run Tryz.prog W = .ok (.int .i64 C) W := fun W => by kernel_rfl
  have p1 : ∀ W, (part 3 #[.int .i64 C, .int .i64 P, .string Wd] 1).run Tryz.prog W = .ok (.int .i64 P) W := fun W => by kernel_rfl
  have p2 : ∀ W, (part 9 #[.int .i64 C, .int .i64 P, .string Wd] 2).run Tryz.prog W = .ok (.string Wd) W := fun W => by kernel_rfl
  have q0 : ∀ W, (Op.equalIn 9999 25 (.int .i64 C) (.int .i64 C)).run Tryz.prog W = .ok true W := fun W => by rw [run_equalIn_int W 9998 25 .i64 .i64 C C (by kernel_rfl)]; simp
  have q1 : ∀ W, (Op.equalIn 9999 3 (.int .i64 P) (.int .i64 P)).run Tryz.prog W = .ok true W := fun W => by rw [run_equalIn_int W 9998 3 .i64 .i64 P P Tryz.underlying3]; simp
  have q2 : ∀ W, (Op.equalIn 9999 9 (.string Wd) (.string Wd)).run Tryz.prog W = .ok true W := fun W => by rw [run_equalIn_string W 9998 9 Wd Wd Tryz.underlying9]; simp
  simp [Op.eqFields, Sem.run_bind, Result.andThen, t0, o0, t1, o1, t2, o2, p0, p1, p2, q0, q1, q2]
set_option maxRecDepth 100000 in
set_option maxHeartbeats 16000000 in
theorem NameParses_core (w : World) (ht : HasTab w) (hr : HasRules w) (he : ErrT w) (s t2 : ByteArray) :
    Calls Tryz.prog 3 #[.string s, .string t2] w fun e w' => e = .returned (.bool true) ∧ Ext w w' := by
  obtain ⟨C, P, Wd, pts, HB⟩ := both_any w ht he s
  obtain ⟨C', P', Wd', pts', HO⟩ := both_any w ht he t2
  have hAl : ∀ W, Ext w W → Calls Tryz.prog 9 #[] W fun e w' => e = .returned (.bool true) ∧ Ext W w' := fun W x => alive_any W (ht.ext6 x) (hr.ext x)
  have hAlh : Hid _ := hAl
  have HBh : Hid (Both w s C P Wd pts) := HB
  have HOh : Hid (Both w t2 C' P' Wd' pts') := HO
  have hD := HB.doc w (Ext.refl w)
  have hnq := neq_ft (C : Int) (P : Int) Wd
  clear hAl HB HO ht hr he
  go_enter Tryz.func3, Tryz.ntmps3
  go_wp2_with fail
  go_at_call 4
  refine hD.mono ?_
  rintro _ w1 ⟨a1, n1, c1, rfl, hn1, x1⟩
  clear hD
  go_wp2_with fail
  go_at_call 5
  obtain ⟨W2, hW2⟩ : ∃ W2, (w1.alloc (.cells #[.slice a1 n1 c1] 24)).alloc (.cells #[.int .i64 (C : Int), .int .i64 (P : Int), .string Wd] 27) = W2 := ⟨_, rfl⟩
  have y2 : Ext w1 W2 := by rw [← hW2]; exact ((Ext.refl w1).alloc _).alloc _
  have b5 := al_at w1 (.cells #[.slice a1 n1 c1] 24) [.cells #[.int .i64 (C : Int), .int .i64 (P : Int), .string Wd] 27]
  have b6 := al_at (w1.alloc (.cells #[.slice a1 n1 c1] 24)) (.cells #[.int .i64 (C : Int), .int .i64 (P : Int), .string Wd] 27) []
  simp only [List.foldl_cons, List.foldl_nil, World.size_alloc] at b5 b6
  rw [hW2] at b5 b6 ⊢
  clear hW2
  have xW2 : Ext w W2 := x1.out.trans y2
  have K2 : Hid (W2.heap[w1.heap.size]? = some (.cells #[.slice a1 n1 c1] 24 (0, 0)) ∧ W2.heap[w1.heap.size + 1]? = some (.cells #[.int .i64 (C : Int), .int .i64 (P : Int), .string Wd] 27 (0, 0))) := ⟨b5, b6⟩
  clear b5 b6
  refine (HBh.out.par W2 xW2).mono ?_
  rintro _ w3 ⟨a3, n3, c3, i3, rfl, h3, f3, x3⟩
  go_wp2_with fail
  go_at_call 5
  obtain ⟨W4, hW4⟩ : ∃ W4, w3.alloc (.cells #[.slice a3 n3 c3] 24) = W4 := ⟨_, rfl⟩
  have y4 : Ext w3 W4 := by rw [← hW4]; exact (Ext.refl w3).alloc _
  have K4 : Hid (W4.heap[w3.heap.size]? = some (.cells #[.slice a3 n3 c3] 24 (0, 0))) := by rw [← hW4]; exact heap_alloc_new w3 _
  rw [hW4]
  clear hW4
  have xW4 : Ext w W4 := (xW2.trans x3.out).trans y4
  refine (HBh.out.par W4 xW4).mono ?_
  rintro _ w5 ⟨a5, n5, c5, i5, rfl, h5, f5, x5⟩
  go_wp2_with fail
  go_at_call 5
  obtain ⟨W6, hW6⟩ : ∃ W6, w5.alloc (.cells #[.slice a5 n5 c5] 24) = W6 := ⟨_, rfl⟩
  have y6 : Ext w5 W6 := by rw [← hW6]; exact (Ext.refl w5).alloc _
  have K6 : Hid (W6.heap[w5.heap.size]? = some (.cells #[.slice a5 n5 c5] 24 (0, 0))) := by rw [← hW6]; exact heap_alloc_new w5 _
  rw [hW6]
  clear hW6
  have xW6 : Ext w W6 := (xW4.trans x5.out).trans y6
  refine (HOh.out.par W6 xW6).mono ?_
  rintro _ w7 ⟨a7, n7, c7, i7, rfl, h7, f7, x7⟩
  clear h7 f7
  have x37 : Ext w3 w7 := ((y4.trans x5.out).trans y6).trans x7.out
  have x57 : Ext w5 w7 := y6.trans x7.out
  go_wp2_with fail
  go_at_call 6
  refine (f3.out w7 x37).mono ?_
  rintro _ w8 ⟨rfl, x8⟩
  go_wp2_with fail
  go_at_call 6
  obtain ⟨W9, hW9⟩ : ∃ W9, w8.alloc (.cells #[.int .i64 (C : Int), .int .i64 (P : Int), .string Wd] 27) = W9 := ⟨_, rfl⟩
  have y9 : Ext w8 W9 := by rw [← hW9]; exact (Ext.refl w8).alloc _
  have K9 : Hid (W9.heap[w8.heap.size]? = some (.cells #[.int .i64 (C : Int), .int .i64 (P : Int), .string Wd] 27 (0, 0))) := by rw [← hW9]; exact heap_alloc_new w8 _
  rw [hW9]
  clear hW9
  refine (f5.out W9 ((x57.trans x8).trans y9)).mono ?_
  rintro _ w10 ⟨rfl, x10⟩
  go_upto_region 7 with fail
  obtain ⟨W11, hW11⟩ : ∃ W11, w10.alloc (.cells #[.int .i64 (C : Int), .int .i64 (P : Int), .string Wd] 27) = W11 := ⟨_, rfl⟩
  have y11 : Ext w10 W11 := by rw [← hW11]; exact (Ext.refl w10).alloc _
  have K11 : W11.heap[w10.heap.size]? = some (.cells #[.int .i64 (C : Int), .int .i64 (P : Int), .string Wd] 27 (0, 0)) := by rw [← hW11]; exact heap_alloc_new w10 _
  rw [hW11]
  clear hW11
  have z7 : Ext w7 W11 := ((x8.trans y9).trans x10).trans y11
  have z6 : Ext W6 W11 := x7.out.trans z7
  have z4 : Ext W4 W11 := (x5.out.trans y6).trans z6
  have z2 : Ext W2 W11 := (x3.out.trans y4).trans z4
  have z9 : Ext W9 W11 := x10.trans y11
  have k5 := ext_blockP z2 K2.out.1
  have k6 := ext_blockP z2 K2.out.2
  have k7 := ext_blockP z4 K4.out
  have k9 := ext_blockP z6 K6.out
  have k11 := ext_blockP z9 K9.out
  have p5 := cell_of_row _ _ 0 _ _ _ k5
  have p7 := cell_of_row _ _ 0 _ _ _ k7
  have p9 := cell_of_row _ _ 0 _ _ _ k9
  have q0 := cell_of_row _ _ 0 _ _ _ k6
  have q1 := cell_of_row _ _ 1 _ _ _ k6
  have q2 := cell_of_row _ _ 2 _ _ _ k6
  have r0 := cell_of_row _ _ 0 _ _ _ k11
  have r1 := cell_of_row _ _ 1 _ _ _ k11
  have r2 := cell_of_row _ _ 2 _ _ _ k11
  have s0 := cell_of_row _ _ 0 _ _ _ K11
  have s1 := cell_of_row _ _ 1 _ _ _ K11
  have s2 := cell_of_row _ _ 2 _ _ _ K11
  simp only [List.getElem?_toArray, List.getElem?_cons_zero, List.getElem?_cons_succ] at p5 p7 p9 q0 q1 q2 r0 r1 r2 s0 s1 s2
  obtain ⟨u1, hn1'⟩ := hn1.out
  obtain ⟨u3, ho3⟩ := h3.out
  obtain ⟨u5, ho5⟩ := h5.out
  have z3 : Ext w3 W11 := y4.trans z4
  have z5 : Ext w5 W11 := y6.trans z6
  have N1 : Hid (NmIn w1 (.slice a1 n1 c1) u1 pts) := hn1'
  have N3 : Hid (NmOwn w3 W2.heap.size (.slice a3 n3 c3) pts u3) := ho3
  have N5 : Hid (NmOwn w5 W4.heap.size (.slice a5 n5 c5) pts u5) := ho5
  have z1 : Ext w1 W11 := y2.trans z2
  have hS1 := Same_true W11 _ _ u3 u1 pts (N3.out.extP z3).nameP (N1.out.ext z1)
  have hS2 := fun W (x : Ext W11 W) => Same_true W _ _ u5 u1 pts (N5.out.extP (z5.trans x)).nameP (N1.out.ext (z1.trans x))
  have hS2h : Hid _ := hS2
  have hX : Hid (Ext w W11) := xW6.trans z6
  have hSz : Hid (W2.heap.size ≤ w3.heap.size ∧ w3.heap.size < W4.heap.size ∧ W4.heap.size ≤ w5.heap.size ∧ w5.heap.size < W6.heap.size ∧ w1.heap.size + 1 < W2.heap.size ∧ w.heap.size ≤ w1.heap.size) := ⟨x3.out.size, (Array.getElem?_eq_some_iff.1 K4.out).1, x5.out.size, (Array.getElem?_eq_some_iff.1 K6.out).1, (Array.getElem?_eq_some_iff.1 K2.out.2).1, x1.out.size⟩
  clear hS2 hn1 h3 h5 hn1' ho3 ho5 k5 k6 k7 k9 k11 K11 K2 K4 K6 K9 f3 f5 x37 x57 x8 x10 y9 y11 z7 z6 z4 z2 z9 x7 xW2 xW4 xW6 y2 y4 y6 x3 x5 x1 HOh
  go_wp2_with fail
  go_at_call 7
  refine hS1.mono ?_
  rintro _ w12 ⟨rfl, x12⟩
  have p5b := x12.cell p5
  have p7b := x12.cell p7
  have p9b := x12.cell p9
  have hS2i := hS2h.out w12 x12
  clear hS1 p5 p7 p9 q0 q1 q2 r0 r1 r2 s0 s1 s2
  go_wp2_with fail
  go_at_call 7
  refine hS2i.mono ?_
  rintro _ w13 ⟨rfl, x13⟩
  have p5c := x13.cell p5b
  have p7c := x13.cell p7b
  have p9c := x13.cell p9b
  have xx : Ext W11 w13 := x12.trans x13
  have hSp := spoil_any w13 W2.heap.size _ pts u3 (N3.out.extP (z3.trans xx)) HBh.out.bl HBh.out.bc
  clear hS2i p5b p7b p9b hnq
  go_wp2_with fail
  go_at_call 8
  refine hSp.mono ?_
  rintro _ w14 ⟨rfl, o14⟩
  have hft : Hid (∀ b, footN (.slice a3 n3 c3) u3 b → W2.heap.size ≤ b ∧ b < w3.heap.size) := fun b hb => N3.out.footP b hb
  have p5d := o14.cell p5c (fun h9 => by have h8 := hft.out _ h9; have := hSz.out; simp only at h8; omega)
  have p9d := o14.cell p9c (fun h9 => by have h8 := hft.out _ h9; have := hSz.out; simp only at h8; omega)
  have X14 : Hid (Ext w w14) := (hX.out.trans xx).then o14 (fun b hb => by have h8 := hft.out _ hb; have := hSz.out; omega)
  have N1d : Hid (NmIn w14 (.slice a1 n1 c1) u1 pts) := N1.out.low (z1.trans xx) o14 (fun b hb => by have h8 := hft.out _ hb; have := hSz.out; omega)
  have N5d : Hid (NmIn w14 (.slice a5 n5 c5) u5 pts) := ((N5.out.extP (z5.trans xx)).keptP o14 (fun b hb h9 => by have h8 := hft.out _ h9; have := hSz.out; omega)).nameP
  have hPc := HBh.out.par w14 X14.out
  clear hSp p5c p7c p9c o14 xx x12 x13 z3 z5 z1 N1 N3 N5 hX hft
  go_wp2_with fail
  go_at_call 5
  refine hPc.mono ?_
  rintro _ w15 ⟨a15, n15, c15, i15, rfl, h15, f15, x15⟩
  obtain ⟨u15, ho15⟩ := h15.out
  clear f15 h15 hPc
  go_upto_region 11 with fail
  obtain ⟨W16, hW16⟩ : ∃ W16, w15.alloc (.cells #[.slice a15 n15 c15] 24) = W16 := ⟨_, rfl⟩
  have y16 : Ext w15 W16 := by rw [← hW16]; exact (Ext.refl w15).alloc _
  have K16 : W16.heap[w15.heap.size]? = some (.cells #[.slice a15 n15 c15] 24 (0, 0)) := by rw [← hW16]; exact heap_alloc_new w15 _
  rw [hW16]
  clear hW16
  have e5 := y16.cell (x15.out.cell p5d)
  have e9 := y16.cell (x15.out.cell p9d)
  have e16 := cell_of_row _ _ 0 _ _ _ K16
  simp only [List.getElem?_toArray, List.getElem?_cons_zero] at e16
  have hS3 := Same_true W16 _ _ u5 u1 pts (N5d.out.ext (x15.out.trans y16)) (N1d.out.ext (x15.out.trans y16))
  have hS4 := fun W (x : Ext W16 W) => Same_true W _ _ u15 u1 pts ((ho15.extP (y16.trans x)).nameP) (N1d.out.ext ((x15.out.trans y16).trans x))
  have hS4h : Hid _ := hS4
  have X16 : Hid (Ext w W16) := X14.out.trans (x15.out.trans y16)
  clear hS4 p5d p9d N5d N1d K16 ho15
  go_wp2_with fail
  go_at_call 7
  refine hS3.mono ?_
  rintro _ w17 ⟨rfl, x17⟩
  have g5 := x17.cell e5
  have g16 := x17.cell e16
  have hS4i := hS4h.out w17 x17
  clear hS3 e5 e9 e16
  go_wp2_with fail
  go_at_call 7
  refine hS4i.mono ?_
  rintro _ w18 ⟨rfl, x18⟩
  have hA := hAlh.out w18 ((X16.out.trans x17).trans x18)
  clear hS4i g5 g16
  go_wp2_with fail
  go_at_call 9
  refine hA.mono ?_
  rintro _ w19 ⟨rfl, x19⟩
  have X19 : Hid (Ext w w19) := ((X16.out.trans x17).trans x18).trans x19
  clear hA
  go_wp2
  go_ret
  exact ⟨rfl, X19.out⟩
end Go.Proofs.YtfiijlmpfpmgiaaGreatDoor
