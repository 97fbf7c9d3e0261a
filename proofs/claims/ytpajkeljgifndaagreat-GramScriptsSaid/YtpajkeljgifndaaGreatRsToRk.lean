/-
  The document's own sorted (rosterref13): numbers, rising.
-/
import Derived.Test.YtpajkeljgifndaaGreatGh
import Derived.Deep.RegionHeld3
import Derived.Test.YtpajkeljgifndaaGreatGu
namespace Go.Proofs.YtpajkeljgifndaaGreat
open Go.RowKit Go.Maps Go.Shelf Go.Lib

/-- not falling -/
def sliceLen : Value → Nat
  | .slice _ n _ => n
  | _ => 0
/-- not falling, a definition -/
def Srt (l : List UInt32) : Prop := l.Pairwise (fun a b => a.toNat ≤ b.toNat)
theorem elem3 : Tryz.prog.underlying 31 = some (.slice (Tryz.prog.elem 31)) := by kernel_rfl
theorem size3 (w : World) : (Go.sizeOf (Tryz.prog.elem 31)).run Tryz.prog w = .ok 1 w := by
  have e : Tryz.prog.elem 31 = 38 := by kernel_rfl
  obtain ⟨i, hi, h0, h1, h2⟩ := info_parts info3
  rw [e]
  simp [Go.sizeOf, typeInfo, hi, h1]
theorem slice_low3 (a : Option Addr) (n cap s : Nat) (hs : s ≤ n) (w : World) : (Instr.slice 31 (.slice a n cap) (some (.int .i64 (s : Int))) none none).run Tryz.prog w = .ok (.slice (if cap = s then a else a.map (fun x => x.add s)) (n - s) (cap - s)) w := by
  rw [run_slice_l (t := 31) (a := a) (len := n) (cap := cap) (ht := elem3) (kl := .i64) (l := (s : Int)) (h0 := by omega) (h1 := by omega), size3]
  simp only [Result.andThen, sliced, Int.toNat_natCast, Nat.mul_one]
theorem slice_high3 (a : Option Addr) (n cap s : Nat) (hs : s ≤ cap) (w : World) : (Instr.slice 31 (.slice a n cap) none (some (.int .i64 (s : Int))) none).run Tryz.prog w = .ok (.slice a s cap) w := by
  rw [run_slice_h (t := 31) (a := a) (len := n) (cap := cap) (ht := elem3) (kh := .i64) (h := (s : Int)) (h0 := by omega) (h2 := by omega), size3]
  simp only [Result.andThen, sliced, Int.toNat_natCast, Nat.zero_mul, Nat.sub_zero]
  have h0 : ∀ x : Addr, x.add 0 = x := fun x => by unfold Addr.add; split <;> simp_all
  cases a <;> simp [h0]
theorem sl_take {α : Type} {enc : α → Value} {w : World} {a : Option Addr} {n cap : Nat} {l : List α} (h : Sl enc w (.slice a n cap) l) (m : Nat) (hm : m ≤ n) : Sl enc w (.slice a m cap) (l.take m) := by
  have hl := h.len
  refine ⟨a, cap, by rw [List.length_take, Nat.min_eq_left (by omega)], by rw [List.length_take]; omega, hl.2.2, fun j hj => ?_⟩
  have hj' : j < l.length := by rw [List.length_take] at hj; omega
  obtain ⟨g, o, e, c⟩ := h.at j hj'
  exact ⟨g, o, e, by rw [List.getElem_take]; exact c⟩
theorem pushU {W : World} {B : Nat} {l : List UInt32} {u : Value} (hr : RowE 38 U3 W (fun k => B ≤ k) u l) (hB : B ≤ W.heap.size) (ty : TypeId) (x : UInt32) (z : Int) (hz : z = (x.toNat : Int)) (hl : l.length ≤ 17592186044415) :
    ∃ a n c W', (Builtin.append_ #[31, 31] ty #[u, .slice (some ⟨W.heap.size, 0, none⟩) 1 1]).run Tryz.prog (W.alloc (.cells #[.int .u32 z] 38)) = .ok (.slice a n c) W' ∧ Hid (RowE 38 U3 W' (fun k => B ≤ k) (.slice a n c) (l ++ [x]) ∧ Only (own u) W W') := by
  subst hz
  have h2m : RowE 38 U3 (W.alloc (.cells #[.int .u32 (x.toNat : Int)] 38)) (own u) u l := Row.alloc (Row.min hr) _
  obtain ⟨w', a, cap, hr9, r', o'⟩ := run_append3 _ _ ty u l h2m _ 1 [x] (srcB Tryz.underlying31 one3 _ W.heap.size _ [x] 1 1 (heap_alloc_new W _) rfl rfl) rfl (by simp; omega)
  refine ⟨a, _, cap, w', hr9, r'.to rfl rfl ?_, ((Only.refl _ W).alloc _).then o'⟩
  rintro k (hk | hk)
  · exact hr.2 k hk
  · simp at hk; omega
/-- what is merged so far -/
def Mg (l out A B : List UInt32) : Prop := Srt out ∧ Srt A ∧ Srt B ∧ (∀ x ∈ out, ∀ y ∈ A ++ B, x.toNat ≤ y.toNat) ∧ (out ++ (A ++ B)).Perm l
theorem srt_snoc {out : List UInt32} {x : UInt32} (h : Srt out) (hx : ∀ y ∈ out, y.toNat ≤ x.toNat) : Srt (out ++ [x]) :=
  List.pairwise_append.2 ⟨h, List.pairwise_singleton _ _, fun a ha b hb => by rw [List.mem_singleton.1 hb]; exact hx a ha⟩
theorem Mg.left {l out A B : List UInt32} {x : UInt32} (h : Mg l out (x :: A) B) (hb : ∀ y, B.head? = some y → x.toNat ≤ y.toNat) : Mg l (out ++ [x]) A B := by
  obtain ⟨h1, h2, h3, h4, h5⟩ := h
  obtain ⟨h6, h7⟩ := List.pairwise_cons.1 h2
  have hxB : ∀ y ∈ B, x.toNat ≤ y.toNat := by
    cases B with
    | nil => simp
    | cons y t =>
      have h8 := hb y rfl
      intro z hz
      rcases List.mem_cons.1 hz with rfl | hz
      · exact h8
      · exact Nat.le_trans h8 ((List.pairwise_cons.1 h3).1 z hz)
  refine ⟨srt_snoc h1 (fun y hy => h4 y hy x (by simp)), h7, h3, fun z hz y hy => ?_, by simpa using h5⟩
  rcases List.mem_append.1 hz with hz | hz
  · exact h4 z hz y (by simp only [List.cons_append, List.mem_cons]; exact .inr hy)
  · rw [List.mem_singleton.1 hz]
    rcases List.mem_append.1 hy with hy | hy
    · exact h6 y hy
    · exact hxB y hy
theorem Mg.right {l out A B : List UInt32} {x : UInt32} (h : Mg l out A (x :: B)) (hb : ∀ y, A.head? = some y → x.toNat ≤ y.toNat) : Mg l (out ++ [x]) A B := by
  obtain ⟨h1, h2, h3, h4, h5⟩ := h
  obtain ⟨h6, h7⟩ := List.pairwise_cons.1 h3
  have hxA : ∀ y ∈ A, x.toNat ≤ y.toNat := by
    cases A with
    | nil => simp
    | cons y t =>
      have h8 := hb y rfl
      intro z hz
      rcases List.mem_cons.1 hz with rfl | hz
      · exact h8
      · exact Nat.le_trans h8 ((List.pairwise_cons.1 h2).1 z hz)
  refine ⟨srt_snoc h1 (fun y hy => h4 y hy x (by simp)), h2, h7, fun z hz y hy => ?_, ?_⟩
  · rcases List.mem_append.1 hz with hz | hz
    · refine h4 z hz y ?_
      rcases List.mem_append.1 hy with hy | hy
      · exact List.mem_append_left _ hy
      · exact List.mem_append_right _ (List.mem_cons_of_mem _ hy)
    · rw [List.mem_singleton.1 hz]
      rcases List.mem_append.1 hy with hy | hy
      · exact hxA y hy
      · exact h6 y hy
  · refine List.Perm.trans ?_ h5
    rw [List.append_assoc]
    refine List.Perm.append_left out ?_
    exact (List.perm_middle (l₁ := A) (a := x) (l₂ := B)).symm
theorem Mg.len {l out A B : List UInt32} (h : Mg l out A B) : out.length + (A.length + B.length) = l.length := by
  have := h.2.2.2.2.length_eq
  simpa using this
end Go.Proofs.YtpajkeljgifndaaGreat

/-
  sorted, walked.
-/
namespace Go.Proofs.YtpajkeljgifndaaGreat
open Go.RowKit Go.Maps Go.Shelf Go.Lib

section
set_option maxRecDepth 100000
set_option maxHeartbeats 8000000
theorem rsort_any : ∀ (N : Nat) (w : World) (v : Value) (l : List UInt32), l.length < N → l.length ≤ 17592186044415 → Sl U3 w v l →
    Calls Tryz.prog 27 #[v] w fun e w' => ∃ a n c D, e = .returned (.slice a n c) ∧ Sl U3 w' (.slice a n c) D ∧ D.Perm l ∧ Srt D ∧ Ext w w' ∧ ∀ k, own (.slice a n c) k → own v k ∨ w.heap.size ≤ k := by
  intro N
  induction N with
  | zero => intro _ _ _ h; exact absurd h (Nat.not_lt_zero _)
  | succ N ih =>
    intro w v l hN hl hs
    obtain ⟨a, n, c, rfl, hn⟩ := hs.shape
    have hnl := hs.len
    by_cases h2 : n < 2
    · have h2i : (n : Int) < 2 := by omega
      have hsh : Hid (Sl U3 w (.slice a n c) l) := hs
      have hS : Hid (Srt l) := by
        show Srt l
        match l, hn.out with
        | [], _ => exact List.Pairwise.nil
        | [x], _ => exact List.pairwise_singleton _ _
        | x :: y :: t, e => simp only [List.length_cons] at e; omega
      clear hs ih hnl
      go_enter Tryz.func27, Tryz.ntmps27
      go_wp2
      go_ret
      exact ⟨a, n, c, l, rfl, hsh.out, List.Perm.refl l, hS.out, Ext.refl w, fun k hk => .inl hk⟩
    · have h2i : decide ((n : Int) < 2) = false := decide_eq_false (by omega)
      have h2j : decide (n < 2) = false := decide_eq_false (by omega)
      obtain ⟨m, hm⟩ : ∃ m, m = n / 2 := ⟨_, rfl⟩
      have hmi : (n : Int).tdiv 2 = (m : Int) := by rw [Int.tdiv_eq_ediv_of_nonneg (by omega)]; omega
      have hmn : m ≤ n := by omega
      have hnb : n ≤ 17592186044415 := by omega
      have hwm : IntKind.i64.wrap (m : Int) = (m : Int) := by rw [IntKind.wrap_i64]; omega
      have q1 := slice_high3 a n c m (by omega)
      have q2 := slice_low3 a n c m hmn
      obtain ⟨X, hX⟩ : ∃ X, (if c = m then a else a.map (fun x => x.add m)) = X := ⟨_, rfl⟩
      have hB := fun w1 (x : Ext w w1) => sl_dropG (hs.ext x) m (by omega)
      rw [hX] at q2
      simp only [hX] at hB
      have i1 := ih w (.slice a m c) (l.take m) (by rw [List.length_take]; omega) (by rw [List.length_take]; omega) (sl_take hs m hmn)
      have i2 := fun w1 (x : Ext w w1) => ih w1 (.slice X (n - m) (c - m)) (l.drop m) (by rw [List.length_drop]; omega) (by rw [List.length_drop]; omega) (hB w1 x)
      have hlb : Hid (l.length ≤ 17592186044415) := hl
      clear hs ih hB hX hm hnl hl hN
      go_enter Tryz.func27, Tryz.ntmps27
      go_wp2_with fail
      go_at_call 27
      refine i1.mono ?_
      rintro _ w1 ⟨a1, n1, c1, A, rfl, s1, p1, t1, x1, -⟩
      have i3 := i2 w1 x1
      clear i1 i2
      go_wp2_with fail
      go_at_call 27
      refine i3.mono ?_
      rintro _ w2 ⟨a2, n2, c2, B, rfl, s2, p2, t2, x2, -⟩
      have hI : Hid (Sl U3 w2 (.slice a1 n1 c1) A ∧ Sl U3 w2 (.slice a2 n2 c2) B ∧ Mg l [] A B ∧ Ext w w2) := by
        refine ⟨s1.ext x2, s2, ⟨List.Pairwise.nil, t1, t2, by simp, ?_⟩, x1.trans x2⟩
        have h9 := p1.append p2
        rw [List.take_append_drop] at h9
        simpa using h9
      have hXw : Hid (Ext w w2) := hI.out.2.2.2
      have hmx := (by kernel_rfl : Tryz.prog.follows Departure.mixedOrders = true)
      clear i3 s1 s2 p1 p2 t1 t2 x1 x2 q1 q2
      go_wp2
      go_loopw [3, 4, 5] (fun va vb vo wr => ∃ (b1 b2 b3 : Option Addr) (m1 m2 m3 d1 d2 d3 : Nat) (A B out : List UInt32), va = .slice b1 m1 d1 ∧ vb = .slice b2 m2 d2 ∧ vo = .slice b3 m3 d3 ∧ m1 ≤ 17592186044415 ∧ m2 ≤ 17592186044415 ∧
        Hid (m1 = A.length ∧ m2 = B.length) ∧ Hid (Sl U3 w2 (.slice b1 m1 d1) A ∧ Sl U3 w2 (.slice b2 m2 d2) B ∧ RowE 38 U3 wr (fun k => w2.heap.size ≤ k) (.slice b3 m3 d3) out ∧ Mg l out A B ∧ Ext w2 wr)) (fun va vb _ _ => sliceLen va + sliceLen vb)
      case atStart =>
        have h8 := hI.out.2.2.1.len
        have h6 := hI.out.1.len
        have h7 := hI.out.2.1.len
        simp only [List.length_nil] at h8
        have := hlb.out
        exact ⟨a1, a2, none, n1, n2, 0, c1, c2, 0, A, B, [], rfl, rfl, rfl, by omega, by omega, ⟨h6.1, h7.1⟩, hI.out.1, hI.out.2.1, row_nil _ _ _ _, hI.out.2.2.1, Ext.refl _⟩
      case round =>
        obtain ⟨b1, b2, b3, m1, m2, m3, d1, d2, d3, A', B', out, rfl, rfl, rfl, hm1, hm2, hml, HA⟩ := hrel
        clear hI
        cases A' with
        | nil =>
          obtain rfl : m1 = 0 := hml.out.1
          cases B' with
          | nil =>
            obtain rfl : m2 = 0 := hml.out.2
            obtain ⟨_, _, r9, mg9, x9⟩ := HA.out
            have hpp : Hid (out.Perm l ∧ Srt out) := ⟨by simpa using mg9.2.2.2.2, mg9.1⟩
            have r9h : Hid (RowE 38 U3 wr (fun k => w2.heap.size ≤ k) (.slice b3 m3 d3) out) := r9
            have x9h : Hid (Ext w2 wr) := x9
            clear r9 mg9 x9
            go_wp2
            go_ret
            exact ⟨b3, m3, d3, out, rfl, r9h.out.sl, hpp.out.1, hpp.out.2, hXw.out.trans x9h.out, fun k hk => .inr (Nat.le_trans hXw.out.size (r9h.out.2 k hk))⟩
          | cons y B2 =>
            have hm2p : 0 < m2 := by have := hml.out.2; simp at this; omega
            have hm2i : (0 : Int) < (m2 : Int) := by omega
            have hm2n : ¬ ((m2 : Int) = 0) := by omega
            have hm2b : ((m2 : Int) == 0) = false := beq_eq_false_iff_ne.2 hm2n
            obtain ⟨gB, oB, eB, cB⟩ := (HA.out.2.1.ext HA.out.2.2.2.2).at 0 (by simp)
            subst eB
            simp only [List.getElem_cons_zero, U3, Nat.add_zero] at cB
            have hpu := fun q => pushU (W := wr.drewN q) (Row.ext HA.out.2.2.1 ((Ext.refl wr).drewN q)) HA.out.2.2.2.2.size 31 y _ rfl (by have := HA.out.2.2.2.1.len; have := hlb.out; omega)
            have hpuh : Hid _ := hpu
            have qs := slice_low3 (some ⟨gB, oB, none⟩) m2 d2 1 (by omega)
            obtain ⟨X, hX⟩ : ∃ X, (if d2 = 1 then some (⟨gB, oB, none⟩ : Addr) else (some (⟨gB, oB, none⟩ : Addr)).map (fun z => z.add 1)) = X := ⟨_, rfl⟩
            have hsd := sl_dropG HA.out.2.1 1 (by simp)
            rw [hX] at qs hsd
            rw [show ((1 : Nat) : Int) = 1 from rfl] at qs
            have hD : Hid (Sl U3 w2 (.slice X (m2 - 1) (d2 - 1)) B2) := hsd
            have hro : Hid (RowE 38 U3 wr (fun k => w2.heap.size ≤ k) (.slice b3 m3 d3) out) := HA.out.2.2.1
            have hMg : Hid (Mg l (out ++ [y]) [] B2) := HA.out.2.2.2.1.right (by simp)
            clear hpu hX hsd
            go_wp2
            go_quiet (fail)
            obtain ⟨a9, n9, e9, W9, hap, hP⟩ := hpuh.out nq
            have haph : Hid _ := hap
            clear hap hpuh
            go_wp2_with (at_builtin; refine Hid.out ?_)
            refine Lib.wpList_append_run _ rfl _ _ _ _ rfl _ _ rfl rfl _ _ haph.out ?_
            clear haph
            go_wp2
            go_roundw
            case rel => exact ⟨b1, X, a9, _, m2 - 1, n9, d1, d2 - 1, e9, _, B2, _, rfl, rfl, rfl, hm1, by omega, ⟨hml.out.1, by have := hml.out.2; simp at this; omega⟩, HA.out.1, hD.out, hP.out.1, hMg.out, (HA.out.2.2.2.2.drewN nq).then hP.out.2 (fun g hg => hro.out.2 g hg)⟩
            case measure => simp [sliceLen]; omega
        | cons x A2 =>
          have hm1p : 0 < m1 := by have := hml.out.1; simp at this; omega
          have hm1i : (0 : Int) < (m1 : Int) := by omega
          obtain ⟨gA, oA, eA, cA⟩ := (HA.out.1.ext HA.out.2.2.2.2).at 0 (by simp)
          subst eA
          simp only [List.getElem_cons_zero, U3, Nat.add_zero] at cA
          cases B' with
          | nil =>
            obtain rfl : m2 = 0 := hml.out.2
            have hpu := fun q => pushU (W := wr.drewN q) (Row.ext HA.out.2.2.1 ((Ext.refl wr).drewN q)) HA.out.2.2.2.2.size 31 x _ rfl (by have := HA.out.2.2.2.1.len; have := hlb.out; omega)
            have hpuh : Hid _ := hpu
            have qs := slice_low3 (some ⟨gA, oA, none⟩) m1 d1 1 (by omega)
            obtain ⟨X, hX⟩ : ∃ X, (if d1 = 1 then some (⟨gA, oA, none⟩ : Addr) else (some (⟨gA, oA, none⟩ : Addr)).map (fun z => z.add 1)) = X := ⟨_, rfl⟩
            have hsd := sl_dropG HA.out.1 1 (by simp)
            rw [hX] at qs hsd
            rw [show ((1 : Nat) : Int) = 1 from rfl] at qs
            have hD : Hid (Sl U3 w2 (.slice X (m1 - 1) (d1 - 1)) A2) := hsd
            have hro : Hid (RowE 38 U3 wr (fun k => w2.heap.size ≤ k) (.slice b3 m3 d3) out) := HA.out.2.2.1
            have hMg : Hid (Mg l (out ++ [x]) A2 []) := HA.out.2.2.2.1.left (by simp)
            clear hpu hX hsd
            go_wp2
            go_quiet (fail)
            obtain ⟨a9, n9, e9, W9, hap, hP⟩ := hpuh.out nq
            have haph : Hid _ := hap
            clear hap hpuh
            go_wp2_with (at_builtin; refine Hid.out ?_)
            refine Lib.wpList_append_run _ rfl _ _ _ _ rfl _ _ rfl rfl _ _ haph.out ?_
            clear haph
            go_wp2
            go_roundw
            case rel => exact ⟨X, b2, a9, m1 - 1, _, n9, d1 - 1, d2, e9, A2, _, _, rfl, rfl, rfl, by omega, hm2, ⟨by have := hml.out.1; simp at this; omega, hml.out.2⟩, hD.out, HA.out.2.1, hP.out.1, hMg.out, (HA.out.2.2.2.2.drewN nq).then hP.out.2 (fun g hg => hro.out.2 g hg)⟩
            case measure => simp [sliceLen]; omega
          | cons y B2 =>
            have hm2p : 0 < m2 := by have := hml.out.2; simp at this; omega
            have hm2n : ¬ ((m2 : Int) = 0) := by omega
            have hm2b : ((m2 : Int) == 0) = false := beq_eq_false_iff_ne.2 hm2n
            obtain ⟨gB, oB, eB, cB⟩ := (HA.out.2.1.ext HA.out.2.2.2.2).at 0 (by simp)
            subst eB
            simp only [List.getElem_cons_zero, U3, Nat.add_zero] at cB
            by_cases hxy : x.toNat ≤ y.toNat
            · have hxyi : (x.toNat : Int) ≤ (y.toNat : Int) := by omega
              have hpu := fun q => pushU (W := wr.drewN q) (Row.ext HA.out.2.2.1 ((Ext.refl wr).drewN q)) HA.out.2.2.2.2.size 31 x _ rfl (by have := HA.out.2.2.2.1.len; have := hlb.out; omega)
              have hpuh : Hid _ := hpu
              have qs := slice_low3 (some ⟨gA, oA, none⟩) m1 d1 1 (by omega)
              obtain ⟨X, hX⟩ : ∃ X, (if d1 = 1 then some (⟨gA, oA, none⟩ : Addr) else (some (⟨gA, oA, none⟩ : Addr)).map (fun z => z.add 1)) = X := ⟨_, rfl⟩
              have hsd := sl_dropG HA.out.1 1 (by simp)
              rw [hX] at qs hsd
              rw [show ((1 : Nat) : Int) = 1 from rfl] at qs
              have hD : Hid (Sl U3 w2 (.slice X (m1 - 1) (d1 - 1)) A2) := hsd
              have hro : Hid (RowE 38 U3 wr (fun k => w2.heap.size ≤ k) (.slice b3 m3 d3) out) := HA.out.2.2.1
              have hMg : Hid (Mg l (out ++ [x]) A2 (y :: B2)) := HA.out.2.2.2.1.left (fun z hz => by cases hz; exact hxy)
              clear hpu hX hsd
              go_wp2
              go_quiet (fail)
              obtain ⟨a9, n9, e9, W9, hap, hP⟩ := hpuh.out nq
              have haph : Hid _ := hap
              clear hap hpuh
              go_wp2_with (at_builtin; refine Hid.out ?_)
              refine Lib.wpList_append_run _ rfl _ _ _ _ rfl _ _ rfl rfl _ _ haph.out ?_
              clear haph
              go_wp2
              go_roundw
              case rel => exact ⟨X, _, a9, m1 - 1, _, n9, d1 - 1, d2, e9, A2, _, _, rfl, rfl, rfl, by omega, hm2, ⟨by have := hml.out.1; simp at this; omega, hml.out.2⟩, hD.out, HA.out.2.1, hP.out.1, hMg.out, (HA.out.2.2.2.2.drewN nq).then hP.out.2 (fun g hg => hro.out.2 g hg)⟩
              case measure => simp [sliceLen]; omega
            · have hxyi : decide ((x.toNat : Int) ≤ (y.toNat : Int)) = false := decide_eq_false (by omega)
              have hxyj : decide (x.toNat ≤ y.toNat) = false := decide_eq_false (by omega)
              have hpu := fun q => pushU (W := wr.drewN q) (Row.ext HA.out.2.2.1 ((Ext.refl wr).drewN q)) HA.out.2.2.2.2.size 31 y _ rfl (by have := HA.out.2.2.2.1.len; have := hlb.out; omega)
              have hpuh : Hid _ := hpu
              have qs := slice_low3 (some ⟨gB, oB, none⟩) m2 d2 1 (by omega)
              obtain ⟨X, hX⟩ : ∃ X, (if d2 = 1 then some (⟨gB, oB, none⟩ : Addr) else (some (⟨gB, oB, none⟩ : Addr)).map (fun z => z.add 1)) = X := ⟨_, rfl⟩
              have hsd := sl_dropG HA.out.2.1 1 (by simp)
              rw [hX] at qs hsd
              rw [show ((1 : Nat) : Int) = 1 from rfl] at qs
              have hD : Hid (Sl U3 w2 (.slice X (m2 - 1) (d2 - 1)) B2) := hsd
              have hro : Hid (RowE 38 U3 wr (fun k => w2.heap.size ≤ k) (.slice b3 m3 d3) out) := HA.out.2.2.1
              have hMg : Hid (Mg l (out ++ [y]) (x :: A2) B2) := HA.out.2.2.2.1.right (fun z hz => by cases hz; omega)
              clear hpu hX hsd
              go_wp2
              go_quiet (fail)
              obtain ⟨a9, n9, e9, W9, hap, hP⟩ := hpuh.out nq
              have haph : Hid _ := hap
              clear hap hpuh
              go_wp2_with (at_builtin; refine Hid.out ?_)
              refine Lib.wpList_append_run _ rfl _ _ _ _ rfl _ _ rfl rfl _ _ haph.out ?_
              clear haph
              go_wp2
              go_roundw
              case rel => exact ⟨_, X, a9, _, m2 - 1, n9, d1, d2 - 1, e9, _, B2, _, rfl, rfl, rfl, hm1, by omega, ⟨hml.out.1, by have := hml.out.2; simp at this; omega⟩, HA.out.1, hD.out, hP.out.1, hMg.out, (HA.out.2.2.2.2.drewN nq).then hP.out.2 (fun g hg => hro.out.2 g hg)⟩
              case measure => simp [sliceLen]; omega
end
end Go.Proofs.YtpajkeljgifndaaGreat

/-
  The document's rows, plainly: the symbols and the grams so far, doubles dropped.
-/
namespace Go.Proofs.YtpajkeljgifndaaGreat
open Go.RowKit Go.Maps Go.Shelf Go.Lib

theorem tri_length : ∀ y : List Nat, (G3.tri y).length = y.length - 2
  | [] => rfl
  | [_] => rfl
  | [_, _] => rfl
  | a :: b :: c :: t => by
    have := tri_length (b :: c :: t)
    simp only [G3.tri, List.length_cons] at *
    omega
theorem tri_get : ∀ (y : List Nat) (k : Nat) (h : k + 2 < y.length), (G3.tri y)[k]'(by rw [tri_length]; omega) = UInt32.ofNat (G3.cod y[k] y[k + 1] y[k + 2])
  | [], k, h => by simp at h
  | [_], k, h => by simp at h
  | [_, _], k, h => by simp only [List.length_cons, List.length_nil] at h; omega
  | a :: b :: c :: t, 0, h => rfl
  | a :: b :: c :: t, k + 1, h => by
    have h1 := tri_get (b :: c :: t) k (by simp only [List.length_cons] at *; omega)
    simpa [G3.tri] using h1
theorem take_snocG {α : Type} (l : List α) (k : Nat) (h : k < l.length) : l.take (k + 1) = l.take k ++ [l[k]] := by
  rw [List.take_add_one, List.getElem?_eq_getElem h]; rfl
theorem tri_take (y : List Nat) (k : Nat) (h : k + 2 < y.length) : (G3.tri y).take (k + 1) = (G3.tri y).take k ++ [UInt32.ofNat (G3.cod y[k] y[k + 1] y[k + 2])] := by
  rw [take_snocG _ k (by rw [tri_length]; omega), tri_get y k h]
/-- the symbols so far, as numbers of 32 bits -/
def symK (st : Bool) (s : ByteArray) (k : Nat) : List UInt32 := (if st then [256] else []) ++ ((byt s).take k).map (fun b => UInt32.ofNat b.toNat)
theorem symK_succ (st : Bool) (s : ByteArray) (k : Nat) (h : k < s.size) : symK st s (k + 1) = symK st s k ++ [UInt32.ofNat s[k].toNat] := by
  unfold symK
  rw [take_snocG _ k (by rw [byt_length]; exact h), List.map_append, List.append_assoc, byt_at s k h]
  rfl
theorem symK_len (st : Bool) (s : ByteArray) (k : Nat) : (symK st s k).length ≤ k + 1 := by
  unfold symK
  cases st <;> simp <;> omega
theorem symK_end (st : Bool) (s : ByteArray) (en : Bool) : symK st s s.size ++ (if en then [257] else []) = (G3.sym st (byt s) en).map UInt32.ofNat := by
  unfold symK G3.sym
  rw [List.take_of_length_le (by rw [byt_length]; exact Nat.le_refl _)]
  cases st <;> cases en <;> simp
/-- doubles dropped, of the first k -/
def ddL (D : List UInt32) : Nat → List UInt32
  | 0 => []
  | k + 1 => ddL D k ++ (if k = 0 ∨ D[k]? ≠ D[k - 1]? then (D[k]?).toList else [])
theorem ddL_len (D : List UInt32) : ∀ k, (ddL D k).length ≤ k
  | 0 => Nat.le_refl _
  | k + 1 => by
    have := ddL_len D k
    simp only [ddL, List.length_append]
    split
    · cases D[k]? <;> simp <;> omega
    · simp; omega
theorem ddL_yes (D : List UInt32) (k : Nat) (h : k < D.length) (hd : k = 0 ∨ ∃ h0 : k - 1 < D.length, D[k] ≠ D[k - 1]) : ddL D (k + 1) = ddL D k ++ [D[k]] := by
  rw [ddL, if_pos, List.getElem?_eq_getElem h]
  · rfl
  · rcases hd with hd | ⟨h0, hd⟩
    · exact .inl hd
    · exact .inr (by rw [List.getElem?_eq_getElem h, List.getElem?_eq_getElem h0]; simpa using hd)
theorem ddL_no (D : List UInt32) (k : Nat) (h : k < D.length) (hk : k ≠ 0) (hd : D[k] = D[k - 1]) : ddL D (k + 1) = ddL D k := by
  rw [ddL, if_neg, List.append_nil]
  rintro (h1 | h1)
  · exact hk h1
  · rw [List.getElem?_eq_getElem h, List.getElem?_eq_getElem (by omega : k - 1 < D.length)] at h1
    exact h1 (by rw [hd])
theorem ddL_good (D : List UInt32) (hS : Srt D) : ∀ k, k ≤ D.length → G3.Rises (ddL D k) ∧ ∀ z, z ∈ ddL D k ↔ z ∈ D.take k
  | 0, _ => ⟨List.Pairwise.nil, fun z => by simp [ddL]⟩
  | k + 1, h => by
    obtain ⟨h1, h2⟩ := ddL_good D hS k (by omega)
    have hk : k < D.length := by omega
    have hle : ∀ z ∈ D.take k, z.toNat ≤ D[k].toNat := by
      intro z hz
      obtain ⟨i, hi, rfl⟩ := List.getElem_of_mem hz
      rw [List.length_take] at hi
      rw [List.getElem_take]
      exact List.pairwise_iff_getElem.1 hS i k (by omega) hk (by omega)
    by_cases hd : k = 0 ∨ D[k] ≠ D[k - 1]
    · rw [ddL_yes D k hk (hd.imp id fun h => ⟨by omega, h⟩)]
      refine ⟨List.pairwise_append.2 ⟨h1, List.pairwise_singleton _ _, ?_⟩, fun z => ?_⟩
      · intro a ha b hb
        rw [List.mem_singleton.1 hb]
        have ha' := (h2 a).1 ha
        have h9 := hle a ha'
        rw [G3.u_lt]
        refine Nat.lt_of_le_of_ne h9 (fun he => ?_)
        rcases hd with rfl | hd
        · simp at ha'
        · obtain ⟨i, hi, rfl⟩ := List.getElem_of_mem ha'
          rw [List.length_take] at hi
          rw [List.getElem_take] at he
          have h7 : D[i].toNat ≤ D[k - 1].toNat := by
            by_cases hik : i = k - 1
            · subst hik; exact Nat.le_refl _
            · exact List.pairwise_iff_getElem.1 hS i (k - 1) (by omega) (by omega) (by omega)
          have h8 : D[k - 1].toNat ≤ D[k].toNat := by
            by_cases hk0 : k = 0
            · subst hk0; exact Nat.le_refl _
            · exact List.pairwise_iff_getElem.1 hS (k - 1) k (by omega) hk (by omega)
          exact hd ((G3.u_eq _ _).2 (by omega))
      · rw [take_snocG D k hk, List.mem_append, List.mem_append, h2 z]
    · have hk0 : k ≠ 0 := fun h => hd (.inl h)
      have hde : D[k] = D[k - 1] := Classical.byContradiction fun h => hd (.inr h)
      rw [ddL_no D k hk hk0 hde]
      refine ⟨h1, fun z => ?_⟩
      rw [take_snocG D k hk, List.mem_append, h2 z, List.mem_singleton]
      constructor
      · exact fun h => .inl h
      · rintro (h | rfl)
        · exact h
        · rw [hde]
          exact List.mem_iff_getElem.2 ⟨k - 1, by rw [List.length_take]; omega, by rw [List.getElem_take]⟩
theorem ddL_set (D l : List UInt32) (hS : Srt D) (hp : D.Perm l) : ddL D D.length = G3.setL l := by
  obtain ⟨h1, h2⟩ := ddL_good D hS D.length (Nat.le_refl _)
  refine G3.rises_ext _ _ h1 (G3.rises_setL l) (fun z => ?_)
  rw [h2 z, List.take_length, G3.mem_setL, hp.mem_iff]
theorem or_add (a b : Nat) (n : Nat) (hb : b < 2 ^ n) : (a * 2 ^ n) ||| b = a * 2 ^ n + b := by
  rw [← Nat.shiftLeft_eq, Nat.shiftLeft_add_eq_or_of_lt hb]
theorem cod_or (a b c : Nat) (ha : a < 512) (hb : b < 512) (hc : c < 512) : ∃ o : Nat, bits .or .u32 ((a : Int) * 262144) ((b : Int) * 512) = (o : Int) ∧ bits .or .u32 (o : Int) (c : Int) = (G3.cod a b c : Int) := by
  refine ⟨a * 262144 + b * 512, ?_, ?_⟩
  · have h := or32 (a * 2 ^ 18) (b * 512) (by omega) (by omega)
    rw [or_add a (b * 512) 18 (by omega)] at h
    rw [show ((a : Int) * 262144) = ((a * 2 ^ 18 : Nat) : Int) by omega, show ((b : Int) * 512) = ((b * 512 : Nat) : Int) by omega, h]
  · have h := or32 (a * 262144 + b * 512) c (by omega) (by omega)
    have e : a * 262144 + b * 512 = (a * 512 + b) * 2 ^ 9 := by omega
    rw [e, or_add (a * 512 + b) c 9 (by omega), ← e] at h
    unfold G3.cod
    exact h
theorem cod_lt (a b c : Nat) (ha : a < 512) (hb : b < 512) (hc : c < 512) : G3.cod a b c < 134217728 := by unfold G3.cod; omega
end Go.Proofs.YtpajkeljgifndaaGreat

/-
  The document's own rows (rosterref13): a text's grams, rising and without doubles, behind others.
-/
namespace Go.Proofs.YtpajkeljgifndaaGreat
open Go.RowKit Go.Maps Go.Shelf Go.Lib

theorem pushS {W : World} {S : Nat → Prop} {l : List UInt32} {u : Value} (hr : RowE 38 U3 W S u l) (hS : ∀ k, W.heap.size ≤ k → S k) (ty : TypeId) (x : UInt32) (z : Int) (hz : z = (x.toNat : Int)) (hl : l.length ≤ 17592186044415) :
    ∃ a n c W', (Builtin.append_ #[31, 31] ty #[u, .slice (some ⟨W.heap.size, 0, none⟩) 1 1]).run Tryz.prog (W.alloc (.cells #[.int .u32 z] 38)) = .ok (.slice a n c) W' ∧ Hid (RowE 38 U3 W' S (.slice a n c) (l ++ [x]) ∧ Only (own u) W W') := by
  subst hz
  have h2m : RowE 38 U3 (W.alloc (.cells #[.int .u32 (x.toNat : Int)] 38)) (own u) u l := Row.alloc (Row.min hr) _
  obtain ⟨w', a, cap, hr9, r', o'⟩ := run_append3 _ _ ty u l h2m _ 1 [x] (srcB Tryz.underlying31 one3 _ W.heap.size _ [x] 1 1 (heap_alloc_new W _) rfl rfl) rfl (by simp; omega)
  refine ⟨a, _, cap, w', hr9, r'.to rfl rfl ?_, ((Only.refl _ W).alloc _).then o'⟩
  rintro k (hk | hk)
  · exact hr.2 k hk
  · exact hS k (by simp at hk; omega)
theorem pushD {W : World} {S : Nat → Prop} {l : List UInt32} {u : Value} (hr : RowE 38 U3 W S u l) (hS : ∀ k, W.heap.size ≤ k → S k) (ty : TypeId) (x : UInt32) (z : Int) (hz : z = (x.toNat : Int)) (hl : l.length ≤ 17592186044415) :
    ∃ a n c W', (Builtin.append_ #[31, 31] ty #[u, .slice (some ⟨W.heap.size, 0, none⟩) 1 1]).run Tryz.prog (W.alloc (.cells #[.int .u32 z] 38)).drew = .ok (.slice a n c) W' ∧ Hid (RowE 38 U3 W' S (.slice a n c) (l ++ [x]) ∧ Only (own u) W W') := by
  obtain ⟨a, n, c, W', h1, h2, h3⟩ := pushS (W := W.drew) (Row.drew hr) hS ty x z hz hl
  exact ⟨a, n, c, W', h1, h2, ((Only.refl _ W).drew).then h3⟩
theorem ofNat_small (n : Nat) (h : n < 134217728) : (UInt32.ofNat n).toNat = n := by rw [UInt32.toNat_ofNat']; omega
section
set_option maxRecDepth 100000
set_option maxHeartbeats 8000000
theorem rows_any (w : World) (m : Nat) (u : Value) (l : List UInt32) (st en : Bool) (s : ByteArray) (hr : RowE 38 U3 w (fun k => m ≤ k) u l) (hm : m ≤ w.heap.size) (hl : l.length + s.size ≤ 17592186044000) :
    Calls Tryz.prog 26 #[u, .string s, .bool st, .bool en] w fun e w' => ∃ u', e = .returned u' ∧ RowE 38 U3 w' (fun k => m ≤ k) u' (l ++ G3.setL (G3.tri (G3.sym st (byt s) en))) ∧ Only (fun k => m ≤ k) w w' := by
  have hrh : Hid (RowE 38 U3 w (fun k => m ≤ k) u l ∧ m ≤ w.heap.size) := ⟨hr, hm⟩
  obtain ⟨ua, un, uc, rfl, _⟩ := hr.sl.shape
  have hlh : Hid (l.length + s.size ≤ 17592186044000) := hl
  clear hr hm hl
  go_enter Tryz.func26, Tryz.ntmps26
  go_upto_if 14 with fail
  go_cut [9] (fun v9 wc => ∃ a n c, v9 = .slice a n c ∧ Hid (RowE 38 U3 wc (fun k => w.heap.size ≤ k) (.slice a n c) (symK st s 0) ∧ Ext w wc))
  case first =>
    cases st with
    | true =>
      obtain ⟨a9, n9, e9, W9, hap, hP⟩ := pushS (W := w) (S := fun k => w.heap.size ≤ k) (u := .slice none 0 0) (l := []) (row_nil w _ _ _) (fun _ h => h) 31 256 256 rfl (by simp)
      have haph : Hid _ := hap
      clear hap
      go_wp2_with (at_builtin; refine Hid.out ?_)
      refine Lib.wpList_append_run _ rfl _ _ _ _ rfl _ _ rfl rfl _ _ haph.out ?_
      clear haph
      go_wp2
      go_meet
      case rel => exact ⟨a9, n9, e9, rfl, by simpa [symK] using hP.out.1, (Ext.refl w).then hP.out.2 (fun g h => by simp [own, Value.ownBlock] at h)⟩
    | false =>
      go_wp2
      go_meet
      case rel => exact ⟨none, 0, 0, rfl, row_nil _ _ _ _, Ext.refl w⟩
  case rest =>
    obtain ⟨a0, n0, c0, rfl, HC⟩ := hcut
    go_wp2
    go_loopw [9, 10] (fun v9 i wr => ∃ k a n c, k ≤ s.size ∧ i = .int .i64 ((k : Nat) : Int) ∧ v9 = .slice a n c ∧ Hid (RowE 38 U3 wr (fun k => w.heap.size ≤ k) (.slice a n c) (symK st s k) ∧ Ext w wr)) (fun _ i _ => s.size - (intOf i).toNat)
    case atStart => exact ⟨0, a0, n0, c0, Nat.zero_le _, rfl, rfl, HC.out⟩
    case round =>
      obtain ⟨k, a, n, c, hk, rfl, rfl, HA⟩ := hrel
      clear HC
      by_cases hlt : k < s.size
      · have hlt' : (k : Int) < (s.size : Int) := by omega
        have hix : ∀ wx, (Instr.index 9 (.string s) (.int .i64 k)).run Tryz.prog wx = .ok (.int .u8 s[k].toNat) wx := idx_run s k hlt
        have hst : Hid (symK st s (k + 1) = symK st s k ++ [UInt32.ofNat s[k].toNat]) := symK_succ st s k hlt
        have hq : s[k].toNat < 256 := s[k].toNat_lt
        generalize s[k].toNat = q at hix hst hq
        have hqm : (q : Int) % 4294967296 = (q : Int) := by omega
        have hk44 : k < 17592186044000 := by have := hlh.out; omega
        obtain ⟨a9, n9, e9, W9, hap, hP⟩ := pushS HA.out.1 (fun _ h => Nat.le_trans HA.out.2.size h) 31 (UInt32.ofNat q) (q : Int) (by rw [ofNat_small q (by omega)]) (by have := symK_len st s k; omega)
        have haph : Hid _ := hap
        clear hap
        go_wp2_with (at_builtin; refine Hid.out ?_)
        refine Lib.wpList_append_run _ rfl _ _ _ _ rfl _ _ rfl rfl _ _ haph.out ?_
        clear haph
        go_wp2
        go_roundw
        case rel => exact ⟨k + 1, a9, n9, e9, hlt, by go_num, rfl, by rw [hst.out]; exact hP.out.1, HA.out.2.then hP.out.2 (fun g h => HA.out.1.2 g h)⟩
        case measure => simp [intOf]; omega
      · have hlt' : ¬ (k : Int) < (s.size : Int) := by omega
        obtain rfl : k = s.size := by omega
        clear hlt hk
        go_upto_if 31 with fail
        go_cut [9] (fun v9 wc => ∃ a n c, v9 = .slice a n c ∧ Hid (RowE 38 U3 wc (fun k => w.heap.size ≤ k) (.slice a n c) ((G3.sym st (byt s) en).map UInt32.ofNat) ∧ Ext w wc))
        case first =>
          have hse := symK_end st s en
          cases en with
          | true =>
            obtain ⟨a9, n9, e9, W9, hap, hP⟩ := pushS HA.out.1 (fun _ h => Nat.le_trans HA.out.2.size h) 31 257 257 rfl (by have := symK_len st s s.size; have := hlh.out; omega)
            have haph : Hid _ := hap
            clear hap
            have hseh : Hid _ := hse
            clear hse
            go_wp2_with (at_builtin; refine Hid.out ?_)
            refine Lib.wpList_append_run _ rfl _ _ _ _ rfl _ _ rfl rfl _ _ haph.out ?_
            clear haph
            go_wp2
            go_meet
            case rel => exact ⟨a9, n9, e9, rfl, by rw [← hseh.out]; exact hP.out.1, HA.out.2.then hP.out.2 (fun g h => HA.out.1.2 g h)⟩
          | false =>
            have hseh : Hid _ := hse
            clear hse
            go_wp2
            go_meet
            case rel => exact ⟨a, n, c, rfl, by rw [← hseh.out]; simpa using HA.out.1, HA.out.2⟩
        case rest =>
          obtain ⟨a1, n1, c1, rfl, HC⟩ := hcut
          clear HA
          obtain ⟨y, hy⟩ : ∃ y, G3.sym st (byt s) en = y := ⟨_, rfl⟩
          have hylt : Hid (∀ x ∈ y, x < 512) := by rw [← hy]; exact G3.sym_lt st en (byt s)
          have hyl : Hid (y.length ≤ s.size + 2) := by have := G3.sym_len st en (byt s); rw [hy, byt_length] at this; exact this
          rw [hy] at HC
          have hyh : Hid (G3.sym st (byt s) en = y) := hy
          have hn1 : Hid (n1 = y.length) := by have := HC.out.1.sl.len.1; rw [List.length_map] at this; exact this
          have hn1b : n1 ≤ 17592186044002 := by have := hn1.out; have := hyl.out; have := hlh.out; omega
          have hmx := (by kernel_rfl : Tryz.prog.follows Departure.mixedOrders = true)
          clear hy
          go_wp2
          go_loopw [11, 12] (fun v11 i wr => ∃ k a n c, k ≤ n1 - 2 ∧ i = .int .i64 ((k : Nat) : Int) ∧ v11 = .slice a n c ∧ Hid (RowE 38 U3 wr (fun k => wc.heap.size ≤ k) (.slice a n c) ((G3.tri y).take k) ∧ Ext wc wr)) (fun _ i _ => n1 - (intOf i).toNat)
          case atStart => exact ⟨0, none, 0, 0, Nat.zero_le _, rfl, rfl, row_nil _ _ _ _, Ext.refl _⟩
          case round =>
            obtain ⟨k, a, n, c, hk, rfl, rfl, HA⟩ := hrel
            obtain ⟨k1, hk1⟩ : ∃ k1, Hid (k1 = k + 1) := ⟨_, rfl⟩
            obtain ⟨k2, hk2⟩ : ∃ k2, Hid (k2 = k + 2) := ⟨_, rfl⟩
            have hs1 : (k : Int) + 1 = (k1 : Int) := by have := hk1.out; omega
            have hs2 : (k : Int) + 2 = (k2 : Int) := by have := hk2.out; omega
            have hw1 : IntKind.i64.wrap (k1 : Int) = (k1 : Int) := by rw [IntKind.wrap_i64]; have := hk1.out; omega
            have hw2 : IntKind.i64.wrap (k2 : Int) = (k2 : Int) := by rw [IntKind.wrap_i64]; have := hk2.out; omega
            by_cases hlt : k2 < n1
            · have hlt2 : (k2 : Int) < (n1 : Int) := by omega
              have hlt1 : k1 < n1 := by have := hk1.out; have := hk2.out; omega
              have hlt0 : k < n1 := by have := hk2.out; omega
              have hyk : k + 2 < y.length := by have := hn1.out; have := hk2.out; omega
              have sy := HC.out.1.sl.ext HA.out.2
              obtain ⟨g, o, e1, q0⟩ := sy.at k (by rw [List.length_map]; omega)
              subst e1
              obtain ⟨g', o', e2, q1⟩ := sy.at k1 (by rw [List.length_map]; have := hk1.out; omega)
              simp only [Option.some.injEq, Addr.mk.injEq, and_true] at e2
              obtain ⟨rfl, rfl⟩ := e2
              obtain ⟨g', o', e2, q2⟩ := sy.at k2 (by rw [List.length_map]; have := hk2.out; omega)
              simp only [Option.some.injEq, Addr.mk.injEq, and_true] at e2
              obtain ⟨rfl, rfl⟩ := e2
              have b0 : y[k] < 512 := hylt.out _ (List.getElem_mem _)
              have b1 : y[k + 1] < 512 := hylt.out _ (List.getElem_mem _)
              have b2 : y[k + 2] < 512 := hylt.out _ (List.getElem_mem _)
              have tk := tri_take y k hyk
              simp only [List.getElem_map, U3, hk1.out, hk2.out] at q0 q1 q2
              rw [ofNat_small _ (by omega)] at q0 q1 q2
              generalize y[k] = x0 at *
              generalize y[k + 1] = x1 at *
              generalize y[k + 2] = x2 at *
              rw [← hk1.out] at q1
              rw [← hk2.out] at q2
              obtain ⟨O, o1, o2⟩ := cod_or x0 x1 x2 b0 b1 b2
              have m0 : IntKind.u32.wrap ((x0 : Int) * 262144) = (x0 : Int) * 262144 := by simp [IntKind.wrap, IntKind.signed, IntKind.bits]; omega
              have m1 : IntKind.u32.wrap ((x1 : Int) * 512) = (x1 : Int) * 512 := by simp [IntKind.wrap, IntKind.signed, IntKind.bits]; omega
              have hcl := cod_lt x0 x1 x2 b0 b1 b2
              obtain ⟨G, hG⟩ : ∃ G, G3.cod x0 x1 x2 = G := ⟨_, rfl⟩
              rw [hG] at o2 hcl tk
              obtain ⟨a9, n9, e9, W9, hap, hP⟩ := pushD HA.out.1 (fun _ h => Nat.le_trans HA.out.2.size h) 31 (UInt32.ofNat G) (bits BinOp.or IntKind.u32 (bits BinOp.or IntKind.u32 (IntKind.u32.wrap ((x0 : Int) * 262144)) (IntKind.u32.wrap ((x1 : Int) * 512))) (x2 : Int)) (by rw [m0, m1, o1, o2, ofNat_small G (by omega)]) (by rw [List.length_take]; have := hk2.out; omega)
              have haph : Hid _ := hap
              have tkh : Hid ((G3.tri y).take k1 = (G3.tri y).take k ++ [UInt32.ofNat G]) := by rw [hk1.out]; exact tk
              have q0h : Hid _ := q0
              have hgb : ∀ g2, own (.slice a n c) g2 → g2 ≠ g := by
                intro g2 h2 h3
                have h4 := HA.out.1.2 g2 h2
                obtain ⟨g', o', e2, q9⟩ := HC.out.1.sl.at k (by rw [List.length_map]; have := hn1.out; omega)
                simp only [Option.some.injEq, Addr.mk.injEq, and_true] at e2
                obtain ⟨rfl, rfl⟩ := e2
                have h5 := World.block_lt_of_cell? wc _ q9
                simp only at h5
                omega
              have r0 := hP.out.2.cell q0 (fun h => hgb _ h rfl)
              have r1 := hP.out.2.cell q1 (fun h => hgb _ h rfl)
              have r2 := hP.out.2.cell q2 (fun h => hgb _ h rfl)
              clear hap sy tk hyk hG hcl hgb m0 m1 o1 o2
              go_wp2
              go_region_held3 (fun W => W.cell? ⟨g, o + k, none⟩ = some (.int .u32 (x0 : Int)) ∧ W.cell? ⟨g, o + k1, none⟩ = some (.int .u32 (x1 : Int)) ∧ W.cell? ⟨g, o + k2, none⟩ = some (.int .u32 (x2 : Int))) ((first | exact ⟨r0, r1, r2⟩ | go_keep)) ((refine step_append_known (by rfl) _ _ _ _ (by rfl) _ _ (by rfl) (by rfl) haph.out ?_))
              go_wp2
              go_roundw
              case rel => exact ⟨k1, a9, n9, e9, by have := hk1.out; have := hk2.out; omega, by first | rfl | go_num, rfl, by rw [tkh.out]; exact hP.out.1, HA.out.2.then hP.out.2 (fun g h => HA.out.1.2 g h)⟩
              case measure => simp [intOf]; have := hk1.out; omega
            · have hlt2 : ¬ (k2 : Int) < (n1 : Int) := by omega
              have hall : Hid ((G3.tri y).take k = G3.tri y) := List.take_of_length_le (by rw [tri_length]; have := hn1.out; have := hk2.out; omega)
              have htl : (G3.tri y).length ≤ 17592186044000 := by rw [tri_length]; have := hyl.out; have := hlh.out; omega
              obtain ⟨B0, hB0⟩ : ∃ B0, w.heap.size = B0 := ⟨_, rfl⟩
              have hso := rsort_any ((G3.tri y).length + 1) wr (.slice a n c) (G3.tri y) (by omega) (by omega) (by rw [← hall.out]; exact HA.out.1.sl)
              have hown : Hid (∀ k, own (.slice a n c) k → B0 ≤ k) := fun q hq => by have := HA.out.1.2 q hq; have := HC.out.2.size; omega
              have hwr : Hid (Ext w wr) := HC.out.2.trans HA.out.2
              have htlh : Hid ((G3.tri y).length ≤ 17592186044000) := htl
              have htls : Hid ((G3.tri y).length ≤ s.size) := by have := tri_length y; have := hyl.out; show (G3.tri y).length ≤ s.size; omega
              clear HC HA hlt hk hn1b hylt hyl hall htl hn1 hs1 hw1 hk1 hmx
              go_wp2_with fail
              go_at_call 27
              refine hso.mono ?_
              rintro _ w3 ⟨a3, n3, c3, D, rfl, s3, p3, t3, x3, o3⟩
              have hn3 : Hid (n3 = D.length) := s3.len.1
              have hn3b : n3 ≤ 17592186044000 := by have := p3.length_eq; have := htlh.out; have := hn3.out; omega
              have hn3s : Hid (n3 ≤ s.size) := by have := p3.length_eq; have := htls.out; have := hn3.out; show n3 ≤ s.size; omega
              have hfin : Hid (ddL D n3 = G3.setL (G3.tri y)) := by rw [hn3.out]; exact ddL_set D _ t3 p3
              have hwx : Hid (Ext w w3) := hwr.out.trans x3
              have hD : Hid (∀ k (h : k < D.length), ∃ g o, a3 = some (⟨g, o, none⟩ : Addr) ∧ w3.cell? ⟨g, o + k, none⟩ = some (U3 D[k]) ∧ B0 ≤ g) := by
                intro q hq
                obtain ⟨g, o, e1, q1⟩ := s3.at q hq
                refine ⟨g, o, e1, q1, ?_⟩
                subst e1
                rcases o3 g rfl with h9 | h9
                · exact hown.out g h9
                · have := hwr.out.size; omega
              have hdl := fun k => ddL_len D k
              have hdlh : Hid _ := hdl
              have hmx := (by kernel_rfl : Tryz.prog.follows Departure.mixedOrders = true)
              have hl0 : Hid (RowE 38 U3 w3 (fun k => (m ≤ k ∧ k < B0) ∨ w3.heap.size ≤ k) (.slice ua un uc) (l ++ ddL D 0)) := by
                rw [show l ++ ddL D 0 = l by simp [ddL]]
                refine Row.wide (Row.min (Row.ext hrh.out.1 hwx.out)) (fun g hg => .inl ⟨hrh.out.1.2 g hg, ?_⟩)
                have := Row.lt hrh.out.1 hg
                omega
              clear hso s3 p3 t3 x3 o3 hdl hown hwr
              go_wp2
              go_loopw [0, 13] (fun v0 i wq => ∃ k a n c, k ≤ n3 ∧ i = .int .i64 ((k : Nat) : Int) ∧ v0 = .slice a n c ∧ Hid (RowE 38 U3 wq (fun k => (m ≤ k ∧ k < B0) ∨ w3.heap.size ≤ k) (.slice a n c) (l ++ ddL D k) ∧ Only (fun k => m ≤ k ∧ k < B0) w3 wq)) (fun _ i _ => n3 - (intOf i).toNat)
              case atStart => exact ⟨0, ua, un, uc, Nat.zero_le _, rfl, rfl, hl0.out, Only.refl _ _⟩
              case round =>
                obtain ⟨k, a, n, c, hk, rfl, rfl, HA⟩ := hrel
                clear hl0
                by_cases hlt : k < n3
                · have hlti : (k : Int) < (n3 : Int) := by omega
                  have hkD : k < D.length := by have := hn3.out; omega
                  obtain ⟨g, o, e1, q1, hg⟩ := hD.out k hkD
                  subst e1
                  have c1 := HA.out.2.cell q1 (fun h => by have := h.2; simp only at this; omega)
                  have hpu : Hid (∀ q, ∃ a9 n9 c9 W9, (Builtin.append_ #[31, 31] 31 #[.slice a n c, .slice (some ⟨(wr.drewN q).heap.size, 0, none⟩) 1 1]).run Tryz.prog ((wr.drewN q).alloc (.cells #[.int .u32 (D[k].toNat : Int)] 38)) = .ok (.slice a9 n9 c9) W9 ∧ Hid (RowE 38 U3 W9 (fun k => (m ≤ k ∧ k < B0) ∨ w3.heap.size ≤ k) (.slice a9 n9 c9) (l ++ ddL D k ++ [D[k]]) ∧ Only (own (.slice a n c)) (wr.drewN q) W9)) := fun q =>
                    pushS (W := wr.drewN q) (Row.ext HA.out.1 ((Ext.refl wr).drewN q)) (fun _ h => .inr (Nat.le_trans HA.out.2.size h)) 31 D[k] _ rfl (by rw [List.length_append]; have := hdlh.out k; have := hlh.out; have := hn3s.out; omega)
                  have hend : Hid (∀ q W9, Only (own (.slice a n c)) (wr.drewN q) W9 → Only (fun k => m ≤ k ∧ k < B0) w3 W9) := fun q W9 h9 =>
                    (HA.out.2.ext ((Ext.refl wr).drewN q)).trans (h9.mono (fun g _ hs => HA.out.1.2 g hs))
                  unfold U3 at c1
                  by_cases hk0 : k = 0
                  · subst hk0
                    have hyes : Hid (ddL D (0 + 1) = ddL D 0 ++ [D[0]]) := ddL_yes D 0 hkD (.inl rfl)
                    rw [Nat.add_zero] at c1
                    generalize D[0] = x0 at *
                    clear q1
                    go_wp2
                    go_big_quiet (fail)
                    obtain ⟨a9, n9, e9, W9, hap, hP⟩ := hpu.out nq
                    have haph : Hid _ := hap
                    clear hap hpu
                    go_wp2_with (at_builtin; refine Hid.out ?_)
                    refine Lib.wpList_append_run _ rfl _ _ _ _ rfl _ _ rfl rfl _ _ haph.out ?_
                    clear haph
                    go_wp2
                    go_roundw
                    case rel => exact ⟨0 + 1, a9, n9, e9, hlt, by go_num, rfl, by rw [hyes.out, ← List.append_assoc]; exact hP.out.1, hend.out _ _ hP.out.2⟩
                    case measure => simp [intOf]; omega
                  · obtain ⟨j, hj⟩ : ∃ j, Hid (j = k - 1) := ⟨_, rfl⟩
                    have hji : (k : Int) - 1 = (j : Int) := by have := hj.out; omega
                    have hwj : IntKind.i64.wrap (j : Int) = (j : Int) := by rw [IntKind.wrap_i64]; have := hj.out; omega
                    have hjn : j < n3 := by have := hj.out; omega
                    have hjD : j < D.length := by have := hn3.out; omega
                    have hk0i : ¬ ((k : Int) = 0) := by omega
                    have hk0b : ((k : Int) == 0) = false := beq_eq_false_iff_ne.2 hk0i
                    have hk0d : decide ((k : Int) = 0) = false := decide_eq_false hk0i
                    have hk0e : decide (k = 0) = false := decide_eq_false hk0
                    have hk0f : (k == 0) = false := beq_eq_false_iff_ne.2 hk0
                    obtain ⟨g', o', e2, q2, _⟩ := hD.out j hjD
                    simp only [Option.some.injEq, Addr.mk.injEq, and_true] at e2
                    obtain ⟨rfl, rfl⟩ := e2
                    have c2 := HA.out.2.cell q2 (fun h => by have := h.2; simp only at this; omega)
                    unfold U3 at c2
                    by_cases hde : D[k] = D[j]
                    · have hno : Hid (ddL D (k + 1) = ddL D k) := ddL_no D k hkD hk0 (by rw [hde]; first | (congr 1; done) | (congr 1; exact hj.out))
                      rw [← hde] at c2
                      generalize D[k].toNat = X at *
                      clear hpu hend hde q1 q2
                      go_wp2
                      go_big_quiet (fail)
                      go_wp2
                      go_roundw
                      case rel => exact ⟨k + 1, a, n, c, hlt, by go_num, rfl, by rw [hno.out]; exact Row.ext HA.out.1 ((Ext.refl wr).drewN nq), HA.out.2.ext ((Ext.refl wr).drewN nq)⟩
                      case measure => simp [intOf]; omega
                    · have hyes : Hid (ddL D (k + 1) = ddL D k ++ [D[k]]) := ddL_yes D k hkD (.inr ⟨by omega, by intro h9; apply hde; rw [h9]; first | (congr 1; done) | (congr 1; exact hj.out.symm)⟩)
                      have hne : ¬ (D[k].toNat = D[j].toNat) := fun h => hde ((G3.u_eq _ _).2 h)
                      have hnei : ¬ ((D[k].toNat : Int) = (D[j].toNat : Int)) := by omega
                      have hneb : ((D[k].toNat : Int) == (D[j].toNat : Int)) = false := beq_eq_false_iff_ne.2 hnei
                      have hned : decide ((D[k].toNat : Int) = (D[j].toNat : Int)) = false := decide_eq_false hnei
                      have hnen : decide (D[k].toNat = D[j].toNat) = false := decide_eq_false hne
                      generalize D[k] = x0 at *
                      generalize D[j] = x1 at *
                      generalize x0.toNat = X at *
                      generalize x1.toNat = Y at *
                      clear q1 q2 hde
                      go_wp2
                      go_big_quiet (fail)
                      obtain ⟨a9, n9, e9, W9, hap, hP⟩ := hpu.out nq
                      have haph : Hid _ := hap
                      clear hap hpu
                      go_wp2_with (at_builtin; refine Hid.out ?_)
                      refine Lib.wpList_append_run _ rfl _ _ _ _ rfl _ _ rfl rfl _ _ haph.out ?_
                      clear haph
                      go_wp2
                      go_roundw
                      case rel => exact ⟨k + 1, a9, n9, e9, hlt, by go_num, rfl, by rw [hyes.out, ← List.append_assoc]; exact hP.out.1, hend.out _ _ hP.out.2⟩
                      case measure => simp [intOf]; omega
                · have hlti : ¬ (k : Int) < (n3 : Int) := by omega
                  obtain rfl : k = n3 := by omega
                  go_wp2
                  go_ret
                  refine ⟨_, rfl, ?_, ?_⟩
                  · rw [hyh.out, ← hfin.out]
                    exact RowE.to HA.out.1 rfl rfl (fun g hg => hg.elim (fun h => h.1) (fun h => by have := hwx.out.size; have := hrh.out.2; omega))
                  · exact (hwx.out.only (S := fun k => m ≤ k)).then (HA.out.2.mono (fun g _ hg => hg.1))
end
end Go.Proofs.YtpajkeljgifndaaGreat

/-
  The document's own Grams and Asked (rosterref13).
-/
namespace Go.Proofs.YtpajkeljgifndaaGreat
open Go.RowKit Go.Maps Go.Shelf Go.Lib

section
set_option maxRecDepth 100000
set_option maxHeartbeats 8000000
theorem refGrams_any (w : World) (s : ByteArray) (hs : s.size ≤ 17592186044000) :
    Calls Tryz.prog 34 #[.string s] w fun e w' => ∃ u, e = .returned u ∧ RowE 38 U3 w' (fun k => w.heap.size ≤ k) u (G3.gramsL (byt s)) ∧ Ext w w' := by
  have h := rows_any w w.heap.size (.slice none 0 0) [] true true s (row_nil _ _ _ _) (Nat.le_refl _) (by simpa using hs)
  go_enter Tryz.func34, Tryz.ntmps34
  go_wp2_with (go_at_call 26; refine h.mono ?_; rintro _ w1 ⟨u1, rfl, r1, o1⟩; obtain ⟨a1, m1, c1, rfl, _⟩ := r1.sl.shape)
  go_ret
  exact ⟨_, rfl, by simpa [G3.gramsL] using r1, o1.toExt (fun k h => h)⟩
theorem refAsked_few (w : World) (v : Value) (ps : List ByteArray) (hs : Sl G3.encS w v ps) (h2 : ps.length < 2) :
    Calls Tryz.prog 16 #[v] w fun e w' => ∃ u, e = .returned u ∧ RowE 38 U3 w' (fun k => w.heap.size ≤ k) u (G3.askedL (ps.map byt)) ∧ Ext w w' := by
  obtain ⟨a, n, cap, rfl, hnl⟩ := hs.shape
  have he : Hid (G3.askedL (ps.map byt) = []) := if_pos (by rw [List.length_map]; exact h2)
  have hn2 : n = 0 ∨ n = 1 := by have := hnl.out; omega
  clear h2 hnl hs
  rcases hn2 with rfl | rfl
  all_goals
    go_enter Tryz.func16, Tryz.ntmps16
    go_wp2
    go_loopw [3, 4] (fun v3 i wr => v3 = .slice none 0 0 ∧ i = .int .i64 0 ∧ wr = w) (fun _ _ _ => 0)
    case atStart => exact ⟨rfl, rfl, rfl⟩
    case round =>
      obtain ⟨rfl, rfl, rfl⟩ := hrel
      have hso := rsort_any 1 wr (.slice none 0 0) [] (by simp) (by simp) (sl_nil rfl (by decide))
      go_wp2_with fail
      go_at_call 27
      refine hso.mono ?_
      rintro _ w3 ⟨a3, n3, c3, D, rfl, s3, p3, t3, x3, -⟩
      obtain rfl : D = [] := List.perm_nil.1 p3
      obtain rfl : n3 = 0 := s3.len.1
      clear hso s3 p3 t3
      go_wp2
      go_loopw [5, 6] (fun v5 i wq => v5 = .slice none 0 0 ∧ i = .int .i64 0 ∧ wq = w3) (fun _ _ _ => 0)
      case atStart => exact ⟨rfl, rfl, rfl⟩
      case round =>
        obtain ⟨rfl, rfl, rfl⟩ := hrel
        go_wp2
        go_ret
        exact ⟨_, rfl, by rw [he.out]; exact row_nil _ _ _ _, x3⟩
theorem refAsked_many (w : World) (v : Value) (ps : List ByteArray) (hs : Sl G3.encS w v ps) (hw : G3.wts ps ≤ 17592186044000) (h2 : ¬ ps.length < 2) :
    Calls Tryz.prog 16 #[v] w fun e w' => ∃ u, e = .returned u ∧ RowE 38 U3 w' (fun k => w.heap.size ≤ k) u (G3.askedL (ps.map byt)) ∧ Ext w w' := by
  obtain ⟨a, n, cap, rfl, hnl⟩ := hs.shape
  have he : Hid (G3.askedL (ps.map byt) = G3.setL (G3.rowsL n 0 (ps.map byt))) := by
    show _ = _
    have hn9 := hnl.out
    unfold G3.askedL
    rw [List.length_map, ← hn9, if_neg (by omega)]
  have hwh : Hid (G3.wts ps ≤ 17592186044000) := hw
  have hsh : Hid (Sl G3.encS w (.slice a n cap) ps) := hs
  have hn44 : n ≤ 17592186044000 := by
    have h9 : ∀ qs : List ByteArray, qs.length ≤ G3.wts qs := by
      intro qs
      induction qs with
      | nil => simp
      | cons q qs ih => rw [G3.wts_cons, List.length_cons]; omega
    have h8 := h9 ps
    have := hnl.out
    omega
  have hn2 : 1 < n := by have := hnl.out; omega
  have hn2i : (1 : Int) < (n : Int) := by omega
  obtain ⟨n0, hn0⟩ : ∃ n0, Hid (n0 = n - 1) := ⟨_, rfl⟩
  have hn0i : (n : Int) - 1 = (n0 : Int) := by have := hn0.out; omega
  have hn0w : IntKind.i64.wrap (n0 : Int) = (n0 : Int) := by rw [IntKind.wrap_i64]; have := hn0.out; omega
  clear hw hs h2
  go_enter Tryz.func16, Tryz.ntmps16
  go_wp2
  go_loopw [3, 4] (fun v3 i wr => ∃ (k : Nat) (ga : Option Addr) (gn gc : Nat) (L : List UInt32), k ≤ n ∧ i = .int .i64 k ∧ v3 = .slice ga gn gc ∧ Hid ((∀ z, z ∈ L ↔ z ∈ G3.rowsL n 0 ((ps.map byt).take k)) ∧ L.length ≤ G3.weigh ((ps.map byt).take k)) ∧ Hid (RowE 38 U3 wr (fun q => w.heap.size ≤ q) (.slice ga gn gc) L ∧ Ext w wr)) (fun _ i _ => n - (intOf i).toNat)
  case atStart => exact ⟨0, none, 0, 0, [], Nat.zero_le _, rfl, rfl, ⟨by simp [G3.rowsL], by simp⟩, row_nil _ _ _ _, Ext.refl _⟩
  case round =>
    obtain ⟨k, ga, gn, gc, L, hk, rfl, rfl, hL, HA⟩ := hrel
    by_cases hlt : k < n
    · have hlt' : (k : Int) < (n : Int) := by omega
      have hkl : k < ps.length := by have := hnl.out; omega
      obtain ⟨g0, o0, e0, ck⟩ := (hsh.out.ext HA.out.2).at k hkl
      subst e0
      have hwk := G3.weigh_take (ps.map byt) k (by simpa using hkl)
      simp only [List.getElem_map, byt_length] at hwk
      have hsn := G3.rowsL_snoc n (byt ps[k]) ((ps.map byt).take k) 0
      have hsn2 : Hid (G3.rowsL n 0 ((ps.map byt).take (k + 1)) = G3.rowsL n 0 ((ps.map byt).take k) ++ G3.tri (G3.sym (decide (k = 0)) (byt ps[k]) (decide (k + 1 = n)))) := by
        show _ = _
        rw [List.take_succ_eq_append_getElem (by simpa using hkl), List.getElem_map, hsn]
        rw [List.length_take, List.length_map, Nat.zero_add, Nat.min_eq_left (Nat.le_of_lt hkl)]
      have hwe : Hid (G3.weigh ((ps.map byt).take (k + 1)) = G3.weigh ((ps.map byt).take k) + (ps[k].size + 1)) := by
        show _ = _
        rw [List.take_succ_eq_append_getElem (by simpa using hkl), List.getElem_map]
        simp [G3.weigh, byt_length]
      unfold G3.encS at ck
      generalize ps[k] = p at *
      have hc := fun st en => rows_any wr w.heap.size (.slice ga gn gc) L st en p HA.out.1 HA.out.2.size (by have h8 := hwh.out; unfold G3.wts at h8; have h9 := hL.out.2; omega)
      have hgo : Hid (∀ st en, decide (k = 0) = st → decide (k + 1 = n) = en → ((∀ z, z ∈ L ++ G3.setL (G3.tri (G3.sym st (byt p) en)) ↔ z ∈ G3.rowsL n 0 ((ps.map byt).take (k + 1))) ∧ (L ++ G3.setL (G3.tri (G3.sym st (byt p) en))).length ≤ G3.weigh ((ps.map byt).take (k + 1)))) := by
        rintro st en rfl rfl
        rw [hsn2.out, hwe.out]
        refine ⟨fun z => ?_, ?_⟩
        · rw [List.mem_append, List.mem_append, hL.out.1 z, G3.mem_setL]
        · have h1 := G3.setL_len (G3.tri (G3.sym (decide (k = 0)) (byt p) (decide (k + 1 = n))))
          have h3 := G3.tri_len (G3.sym (decide (k = 0)) (byt p) (decide (k + 1 = n)))
          have h4 := G3.sym_len (decide (k = 0)) (decide (k + 1 = n)) (byt p)
          rw [byt_length] at h4
          have := hL.out.2
          rw [List.length_append]
          omega
      have hsk : Hid (byt p = [] → (k = 0 ∨ k + 1 = n) → ((∀ z, z ∈ L ↔ z ∈ G3.rowsL n 0 ((ps.map byt).take (k + 1))) ∧ L.length ≤ G3.weigh ((ps.map byt).take (k + 1)))) := by
        intro hpe hor
        rw [hsn2.out, hwe.out, hpe]
        have e9 : G3.tri (G3.sym (decide (k = 0)) [] (decide (k + 1 = n))) = [] := by
          rcases hor with h9 | h9
          · subst h9
            have : decide (0 + 1 = n) = false := decide_eq_false (by omega)
            rw [this]; rfl
          · have : decide (k = 0) = false := decide_eq_false (by omega)
            rw [this, decide_eq_true h9]; rfl
        rw [e9, List.append_nil]
        exact ⟨hL.out.1, by have := hL.out.2; omega⟩
      clear hsn hwk hsn2 hwe
      by_cases hmid : 0 < k ∧ k < n0
      · have m1 : (0 : Int) < (k : Int) := by omega
        have m1n := hmid.1
        have m2 : (k : Int) < (n0 : Int) := by omega
        have m2n := hmid.2
        have hg2 := hgo.out false false (decide_eq_false (by omega)) (decide_eq_false (by have := hn0.out; omega))
        have hg2h : Hid _ := hg2
        have hc2 := hc false false
        clear hc hgo hsk hg2 hmid
        go_wp2_with (go_at_call 26; refine hc2.mono ?_; rintro _ w1 ⟨u1, rfl, r1, o1⟩; obtain ⟨a1, m1, c1, rfl, _⟩ := r1.sl.shape)
        go_roundw
        case rel => exact ⟨k + 1, a1, m1, c1, _, hlt, by go_num, rfl, hg2h.out, r1, HA.out.2.then o1 (fun g h => h)⟩
        case measure => simp [intOf]; omega
      · by_cases hk0 : k = 0
        · subst hk0
          rw [Nat.add_zero] at ck
          cases hp : p.toList.isEmpty with
          | true =>
            have hg2 := hsk.out (by rw [ByteArray.toList_eq, List.isEmpty_iff] at hp; exact hp) (.inl rfl)
            have hg2h : Hid _ := hg2
            clear hc hgo hsk hg2 hmid
            go_wp2
            go_roundw
            case rel => exact ⟨0 + 1, ga, gn, gc, L, hlt, by go_num, rfl, hg2h.out, HA.out⟩
            case measure => simp [intOf]; omega
          | false =>
            have hg2 := hgo.out true false (decide_eq_true rfl) (decide_eq_false (by omega))
            have hg2h : Hid _ := hg2
            have hc2 := hc true false
            clear hc hgo hsk hg2 hmid
            go_wp2_with (go_at_call 26; refine hc2.mono ?_; rintro _ w1 ⟨u1, rfl, r1, o1⟩; obtain ⟨a1, m1, c1, rfl, _⟩ := r1.sl.shape)
            go_roundw
            case rel => exact ⟨0 + 1, a1, m1, c1, _, hlt, by go_num, rfl, hg2h.out, r1, HA.out.2.then o1 (fun g h => h)⟩
            case measure => simp [intOf]; omega
        · have hkl0 : k + 1 = n := by have := hn0.out; omega
          have m1 : (0 : Int) < (k : Int) := by omega
          have m1n : 0 < k := by omega
          have hk0i : ¬ ((k : Int) = 0) := by omega
          have hk0b : ((k : Int) == 0) = false := beq_eq_false_iff_ne.2 hk0i
          have hk0d : decide ((k : Int) = 0) = false := decide_eq_false hk0i
          have m2 : decide ((k : Int) < (n0 : Int)) = false := decide_eq_false (by have := hn0.out; omega)
          have m2n : decide (k < n0) = false := decide_eq_false (by have := hn0.out; omega)
          cases hp : p.toList.isEmpty with
          | true =>
            have hg2 := hsk.out (by rw [ByteArray.toList_eq, List.isEmpty_iff] at hp; exact hp) (.inr hkl0)
            have hg2h : Hid _ := hg2
            clear hc hgo hsk hg2 hmid hkl0
            go_wp2
            go_roundw
            case rel => exact ⟨k + 1, ga, gn, gc, L, hlt, by go_num, rfl, hg2h.out, HA.out⟩
            case measure => simp [intOf]; omega
          | false =>
            have hg2 := hgo.out false true (decide_eq_false hk0) (decide_eq_true hkl0)
            have hg2h : Hid _ := hg2
            have hc2 := hc false true
            clear hc hgo hsk hg2 hmid hkl0
            go_wp2_with (go_at_call 26; refine hc2.mono ?_; rintro _ w1 ⟨u1, rfl, r1, o1⟩; obtain ⟨a1, m1, c1, rfl, _⟩ := r1.sl.shape)
            go_roundw
            case rel => exact ⟨k + 1, a1, m1, c1, _, hlt, by go_num, rfl, hg2h.out, r1, HA.out.2.then o1 (fun g h => h)⟩
            case measure => simp [intOf]; omega
    · have hlt' : ¬ (k : Int) < (n : Int) := by omega
      have hltd : decide ((k : Int) < (n : Int)) = false := decide_eq_false hlt'
      have hltn : decide (k < n) = false := decide_eq_false hlt
      have hLl : Hid (L.length ≤ 17592186044000) := by
        have h1 := hL.out.2
        rw [List.take_of_length_le (by rw [List.length_map]; have := hnl.out; omega)] at h1
        have := hwh.out
        unfold G3.wts at this
        show L.length ≤ _
        omega
      have hLs : Hid (G3.setL L = G3.askedL (ps.map byt)) := by
        rw [he.out]
        refine G3.rises_ext _ _ (G3.rises_setL _) (G3.rises_setL _) (fun z => ?_)
        rw [G3.mem_setL, G3.mem_setL, hL.out.1 z, List.take_of_length_le (by rw [List.length_map]; have := hnl.out; omega)]
      clear hL he hk hlt
      have hso := rsort_any (L.length + 1) wr (.slice ga gn gc) L (by omega) (by have := hLl.out; omega) HA.out.1.sl
      have hwr : Hid (Ext w wr) := HA.out.2
      clear HA
      go_wp2_with fail
      go_at_call 27
      refine hso.mono ?_
      rintro _ w3 ⟨a3, n3, c3, D, rfl, s3, p3, t3, x3, -⟩
      have hn3 : Hid (n3 = D.length) := s3.len.1
      have hn3b : n3 ≤ 17592186044000 := by have := p3.length_eq; have := hLl.out; have := hn3.out; omega
      have hfin : Hid (ddL D n3 = G3.askedL (ps.map byt)) := by rw [hn3.out, ddL_set D _ t3 p3]; exact hLs.out
      have hwx : Hid (Ext w w3) := hwr.out.trans x3
      have hD : Hid (Sl U3 w3 (.slice a3 n3 c3) D) := s3
      have hmx := (by kernel_rfl : Tryz.prog.follows Departure.mixedOrders = true)
      clear hso s3 p3 t3 x3 hwr hLl hLs
      go_wp2
      go_loopw [5, 6] (fun v5 i wq => ∃ k a n c, k ≤ n3 ∧ i = .int .i64 ((k : Nat) : Int) ∧ v5 = .slice a n c ∧ Hid (RowE 38 U3 wq (fun k => w3.heap.size ≤ k) (.slice a n c) (ddL D k) ∧ Ext w3 wq)) (fun _ i _ => n3 - (intOf i).toNat)
      case atStart => exact ⟨0, none, 0, 0, Nat.zero_le _, rfl, rfl, row_nil _ _ _ _, Ext.refl _⟩
      case round =>
        obtain ⟨k, a, n, c, hk, rfl, rfl, HA⟩ := hrel
        by_cases hlt : k < n3
        · have hlti : (k : Int) < (n3 : Int) := by omega
          have hkD : k < D.length := by have := hn3.out; omega
          obtain ⟨g, o, e1, q1⟩ := hD.out.at k hkD
          subst e1
          have c1 := HA.out.2.cell q1
          have hpu : Hid (∀ q, ∃ a9 n9 c9 W9, (Builtin.append_ #[31, 31] 31 #[.slice a n c, .slice (some ⟨(wr.drewN q).heap.size, 0, none⟩) 1 1]).run Tryz.prog ((wr.drewN q).alloc (.cells #[.int .u32 (D[k].toNat : Int)] 38)) = .ok (.slice a9 n9 c9) W9 ∧ Hid (RowE 38 U3 W9 (fun k => w3.heap.size ≤ k) (.slice a9 n9 c9) (ddL D k ++ [D[k]]) ∧ Only (own (.slice a n c)) (wr.drewN q) W9)) := fun q =>
            pushS (W := wr.drewN q) (Row.ext HA.out.1 ((Ext.refl wr).drewN q)) (fun _ h => Nat.le_trans HA.out.2.size h) 31 D[k] _ rfl (by have := ddL_len D k; omega)
          have hend : Hid (∀ q W9, Only (own (.slice a n c)) (wr.drewN q) W9 → Ext w3 W9) := fun q W9 h9 =>
            (HA.out.2.drewN q).then h9 (fun g h => HA.out.1.2 g h)
          unfold U3 at c1
          by_cases hk0 : k = 0
          · subst hk0
            have hyes : Hid (ddL D (0 + 1) = ddL D 0 ++ [D[0]]) := ddL_yes D 0 hkD (.inl rfl)
            rw [Nat.add_zero] at c1
            generalize D[0] = x0 at *
            clear q1
            go_wp2
            go_big_quiet (fail)
            obtain ⟨a9, n9, e9, W9, hap, hP⟩ := hpu.out nq
            have haph : Hid _ := hap
            clear hap hpu
            go_wp2_with (at_builtin; refine Hid.out ?_)
            refine Lib.wpList_append_run _ rfl _ _ _ _ rfl _ _ rfl rfl _ _ haph.out ?_
            clear haph
            go_wp2
            go_roundw
            case rel => exact ⟨0 + 1, a9, n9, e9, hlt, by go_num, rfl, by rw [hyes.out]; exact hP.out.1, hend.out _ _ hP.out.2⟩
            case measure => simp [intOf]; omega
          · obtain ⟨j, hj⟩ : ∃ j, Hid (j = k - 1) := ⟨_, rfl⟩
            have hji : (k : Int) - 1 = (j : Int) := by have := hj.out; omega
            have hwj : IntKind.i64.wrap (j : Int) = (j : Int) := by rw [IntKind.wrap_i64]; have := hj.out; omega
            have hjn : j < n3 := by have := hj.out; omega
            have hjD : j < D.length := by have := hn3.out; omega
            have hk0i : ¬ ((k : Int) = 0) := by omega
            have hk0b : ((k : Int) == 0) = false := beq_eq_false_iff_ne.2 hk0i
            have hk0d : decide ((k : Int) = 0) = false := decide_eq_false hk0i
            have hk0e : decide (k = 0) = false := decide_eq_false hk0
            have hk0f : (k == 0) = false := beq_eq_false_iff_ne.2 hk0
            obtain ⟨g', o', e2, q2⟩ := hD.out.at j hjD
            simp only [Option.some.injEq, Addr.mk.injEq, and_true] at e2
            obtain ⟨rfl, rfl⟩ := e2
            have c2 := HA.out.2.cell q2
            unfold U3 at c2
            by_cases hde : D[k] = D[j]
            · have hno : Hid (ddL D (k + 1) = ddL D k) := ddL_no D k hkD hk0 (by rw [hde]; first | (congr 1; done) | (congr 1; exact hj.out))
              rw [← hde] at c2
              generalize D[k].toNat = X at *
              clear hpu hend hde q1 q2
              go_wp2
              go_big_quiet (fail)
              go_wp2
              go_roundw
              case rel => exact ⟨k + 1, a, n, c, hlt, by go_num, rfl, by rw [hno.out]; exact Row.ext HA.out.1 ((Ext.refl wr).drewN nq), HA.out.2.drewN nq⟩
              case measure => simp [intOf]; omega
            · have hyes : Hid (ddL D (k + 1) = ddL D k ++ [D[k]]) := ddL_yes D k hkD (.inr ⟨by omega, by intro h9; apply hde; rw [h9]; first | (congr 1; done) | (congr 1; exact hj.out.symm)⟩)
              have hne : ¬ (D[k].toNat = D[j].toNat) := fun h => hde ((G3.u_eq _ _).2 h)
              have hnei : ¬ ((D[k].toNat : Int) = (D[j].toNat : Int)) := by omega
              have hneb : ((D[k].toNat : Int) == (D[j].toNat : Int)) = false := beq_eq_false_iff_ne.2 hnei
              have hned : decide ((D[k].toNat : Int) = (D[j].toNat : Int)) = false := decide_eq_false hnei
              have hnen : decide (D[k].toNat = D[j].toNat) = false := decide_eq_false hne
              generalize D[k] = x0 at *
              generalize D[j] = x1 at *
              generalize x0.toNat = X at *
              generalize x1.toNat = Y at *
              clear q1 q2 hde
              go_wp2
              go_big_quiet (fail)
              obtain ⟨a9, n9, e9, W9, hap, hP⟩ := hpu.out nq
              have haph : Hid _ := hap
              clear hap hpu
              go_wp2_with (at_builtin; refine Hid.out ?_)
              refine Lib.wpList_append_run _ rfl _ _ _ _ rfl _ _ rfl rfl _ _ haph.out ?_
              clear haph
              go_wp2
              go_roundw
              case rel => exact ⟨k + 1, a9, n9, e9, hlt, by go_num, rfl, by rw [hyes.out]; exact hP.out.1, hend.out _ _ hP.out.2⟩
              case measure => simp [intOf]; omega
        · have hlti : ¬ (k : Int) < (n3 : Int) := by omega
          obtain rfl : k = n3 := by omega
          go_wp2
          go_ret
          exact ⟨_, rfl, by rw [← hfin.out]; exact RowE.to HA.out.1 rfl rfl (fun g hg => Nat.le_trans hwx.out.size hg), hwx.out.trans HA.out.2⟩
theorem refAsked_any (w : World) (v : Value) (ps : List ByteArray) (hs : Sl G3.encS w v ps) (hw : G3.wts ps ≤ 17592186044000) :
    Calls Tryz.prog 16 #[v] w fun e w' => ∃ u, e = .returned u ∧ RowE 38 U3 w' (fun k => w.heap.size ≤ k) u (G3.askedL (ps.map byt)) ∧ Ext w w' := by
  by_cases h2 : ps.length < 2
  · exact refAsked_few w v ps hs h2
  · exact refAsked_many w v ps hs hw h2
end
end Go.Proofs.YtpajkeljgifndaaGreat

/-
  Two lists of grams that are the same; append, and what it keeps.
-/
namespace Go.Proofs.YtpajkeljgifndaaGreat
open Go.RowKit Go.Maps Go.Shelf Go.Lib

/-- append, and what it keeps: every cell but those behind the row -/
theorem run_append_keep (w : World) (t e tx ty : TypeId) (z : Value) (sz bytes : Nat) (hi : (Tryz.prog.info? e).map (fun i => (i.zero, i.size, i.bytes)) = some (some z, sz, bytes)) (ht : Tryz.prog.underlying t = some (.slice e)) (hzs : z.cells.size = sz)
    (v : Value) (n : Nat) (xs : List Value) (hrow : Row w (own v) e sz v n xs) (x : Value) (m : Nat) (hm : 0 < m) (news : List Value) (hs : Src Tryz.prog sz tx x m news w) (h63 : n + m ≤ maxLen) (hb : (n + m) * bytes ≤ 140737488355328) :
    ∃ g cap w', (Builtin.append_ #[t, tx] ty #[v, x]).run Tryz.prog w = .ok (.slice (some ⟨g, 0, none⟩) (n + m) cap) w' ∧ Row w' (Up (own v) w.heap.size) e sz (.slice (some ⟨g, 0, none⟩) (n + m) cap) (n + m) (xs ++ news) ∧ Only (own v) w w' ∧
      (∀ b j u, (own v b → j < n * sz) → w.cell? ⟨b, j, none⟩ = some u → w'.cell? ⟨b, j, none⟩ = some u) := by
  obtain ⟨i, hi0, hz, hsz, hby⟩ := info_parts hi
  have hsl : news.length = m * sz := hs.newsLen
  have hxl : xs.length = n * sz := hrow.1.1
  have h63' : ((n + m : Nat) : Int) ≤ 9223372036854775807 := by unfold maxLen at h63; omega
  rw [← hsz] at hs
  have grow : ∀ (base : Option Addr) (cap : Nat), v = .slice base n cap → cap < n + m → (Builtin.firstCells i.size n (.slice base n cap)).run Tryz.prog w.drew = .ok xs.toArray w.drew →
      ∃ g cap w', (Builtin.append_ #[t, tx] ty #[v, x]).run Tryz.prog w = .ok (.slice (some ⟨g, 0, none⟩) (n + m) cap) w' ∧ Row w' (Up (own v) w.heap.size) e sz (.slice (some ⟨g, 0, none⟩) (n + m) cap) (n + m) (xs ++ news) ∧ Only (own v) w w' ∧
      (∀ b j u, (own v b → j < n * sz) → w.cell? ⟨b, j, none⟩ = some u → w'.cell? ⟨b, j, none⟩ = some u) := by
    intro base cap hv hc hold
    subst hv
    have hr := run_append_grow_src (P := Tryz.prog) w t tx ty e i z ht hi0 hz base n cap xs hold x m news hs hc h63' (by rw [hby]; exact growslice_fits hc hb)
    have hge := grownCap_ge w (n + m) cap e
    refine ⟨_, _, _, hr, ⟨⟨by rw [List.length_append, hxl, hsl, Nat.add_mul], .inr ⟨w.heap.size, _, _, rfl, Nat.zero_le _, heap_alloc_new w.drew _, hge, grownCap_le_maxLen w (n + m) cap e h63, ?_, ?_⟩⟩, fun k hk => ?_⟩, (Only.refl _ w).drew.alloc _, fun b j u _ hc => ((Ext.refl w).drew.alloc _).cell hc⟩
    · simp only [Builtin.zeroCells, Array.size_append, List.size_toArray, List.length_append, hxl, hsl]
      rw [Array.size_map, Array.size_range, hzs, ← Nat.add_mul, ← Nat.add_mul, Nat.add_sub_cancel' hge]
    · simp only [Array.toList_append]
      rw [List.take_append_of_le_length (by rw [List.length_append, hxl, hsl, ← Nat.add_mul]; exact Nat.le_refl _), List.take_of_length_le (by rw [List.length_append, hxl, hsl, ← Nat.add_mul]; exact Nat.le_refl _)]
    · simp only [Value.ownBlock, Option.some.injEq] at hk
      exact .inr (by omega)
  rcases hrow.1.2 with ⟨rfl, rfl⟩ | ⟨g, cap, cur, rfl, _, hg, hnc, hcm, hcs, htk⟩
  · have hxs : xs = [] := List.eq_nil_of_length_eq_zero (by simpa using hxl)
    subst hxs
    exact grow none 0 rfl (by omega) (run_firstCells_none w.drew i.size 0 0 0)
  · have hcell : ∀ j u, xs[j]? = some u → w.cell? ((⟨g, 0, none⟩ : Addr).add j) = some u := World.ownsRow.cells hrow.1 rfl
    by_cases hroom : n + m ≤ cap
    · have hcur : cur.size = cap * sz := hcs
      have hle : n * sz + m * sz ≤ cap * sz := by rw [← Nat.add_mul]; exact Nat.mul_le_mul_right _ hroom
      have hr := run_append_room_src (P := Tryz.prog) w t tx ty e i ht hi0 g 0 n cap x m news hs hroom
        (fun j hj => by
          rw [hsz, hsl] at *
          rw [cell_of_row w g _ cur e (0, 0) hg, Array.getElem?_eq_getElem (by omega)]; rfl)
        (fun j hj => by simp [World.frozen?, hg])
      rw [hsz] at hr
      have hh := heap_setCells_at g e (0, 0) news (0 + n * sz) w cur.toList hg (by rw [hsl]; simp; omega)
      have ho : Only (own (.slice (some ⟨g, 0, none⟩) n cap)) w (w.setCells g (0 + n * sz) news) := Only.setCells w g _ news (hrow.2 g rfl)
      refine ⟨g, cap, _, hr, ⟨⟨by rw [List.length_append, hxl, hsl, Nat.add_mul], .inr ⟨g, cap, _, rfl, Nat.zero_le _, hh, by omega, hcm, ?_, ?_⟩⟩, fun k hk => ?_⟩, ho, fun b j u hj hc => ?_⟩
      · simp [hsl]; omega
      · simp only [Nat.zero_add, htk]
        rw [List.take_append_of_le_length (by rw [List.length_append, hxl, hsl, ← Nat.add_mul]; exact Nat.le_refl _), List.take_of_length_le (by rw [List.length_append, hxl, hsl, ← Nat.add_mul]; exact Nat.le_refl _)]
      · simp only [Value.ownBlock, Option.some.injEq] at hk
        exact .inl (hrow.2 k (by simp [Value.ownBlock, hk]))
      · by_cases hbg : b = g
        · subst hbg
          have hj' := hj rfl
          rw [cell_of_row w b _ cur e (0, 0) hg] at hc
          rw [cell_of_row _ b _ _ e (0, 0) hh]
          simp only [Nat.zero_add, htk, List.append_assoc, List.getElem?_toArray]
          rw [List.getElem?_append_left (by omega), ← htk, List.getElem?_take, if_pos hj', Array.getElem?_toList]
          exact hc
        · exact ho.cell hc (fun h => hbg (by simpa [own, Value.ownBlock] using h.symm))
    · refine grow (some ⟨g, 0, none⟩) cap rfl (by omega) ?_
      rw [hsz]
      exact run_firstCells_some w.drew sz n ⟨g, 0, none⟩ n cap xs hxl hcell

/-- one gram more: what pushS says, and what is kept -/
theorem pushK {W : World} {S : Nat → Prop} {l : List UInt32} {u : Value} (hr : RowE 38 U3 W S u l) (hS : ∀ k, W.heap.size ≤ k → S k) (ty : TypeId) (x : UInt32) (z : Int) (hz : z = (x.toNat : Int)) (hl : l.length ≤ 17592186044415) :
    ∃ a n c W', (Builtin.append_ #[31, 31] ty #[u, .slice (some ⟨W.heap.size, 0, none⟩) 1 1]).run Tryz.prog (W.alloc (.cells #[.int .u32 z] 38)) = .ok (.slice a n c) W' ∧ Hid (RowE 38 U3 W' S (.slice a n c) (l ++ [x]) ∧ Only (own u) W W' ∧ (∀ b, own (.slice a n c) b → own u b ∨ W.heap.size ≤ b) ∧ ∀ b j y, (own u b → j < l.length) → W.cell? ⟨b, j, none⟩ = some y → W'.cell? ⟨b, j, none⟩ = some y) := by
  subst hz
  have h2m : RowE 38 U3 (W.alloc (.cells #[.int .u32 (x.toNat : Int)] 38)) (own u) u l := Row.alloc (Row.min hr) _
  have hsrc := srcB Tryz.underlying31 one3 (W.alloc (.cells #[.int .u32 (x.toNat : Int)] 38)) W.heap.size _ [x] 1 1 (heap_alloc_new W _) rfl rfl
  obtain ⟨g, cap, w', hr9, r', o', kp⟩ := run_append_keep _ 31 38 31 ty _ 1 4 info3 Tryz.underlying31 rfl u l.length (l.map U3) h2m _ 1 (by decide) [U3 x] hsrc (by unfold maxLen; omega) (by omega)
  have hf : ∀ b, own (.slice (some ⟨g, 0, none⟩) (l.length + 1) cap) b → own u b ∨ W.heap.size ≤ b := by
    intro b hb
    rcases r'.2 b hb with h9 | h9
    · exact .inl h9
    · exact .inr (by simp at h9; omega)
  refine ⟨_, _, cap, w', hr9, ?_, ((Only.refl _ W).alloc _).then o', hf, fun b j y hj hc => kp b j y (fun h => by have := hj h; omega) (((Ext.refl W).alloc _).cell hc)⟩
  refine rowE_of r' (by simp) (by simp) (fun k hk => ?_)
  rcases hk with hk | hk
  · exact hr.2 k hk
  · exact hS k (by simp at hk; omega)
section
set_option maxRecDepth 100000
set_option maxHeartbeats 4000000
theorem same_true (w : World) (va vb : Value) (l : List UInt32) (ha : Sl U3 w va l) (hb : Sl U3 w vb l) (hl : l.length ≤ 17592186044415) :
    Calls Tryz.prog 20 #[va, vb] w fun e w' => e = .returned (.bool true) ∧ ∃ m, w' = w.drewN m := by
  obtain ⟨a1, n, c1, rfl, hn⟩ := ha.shape
  obtain ⟨a2, n2, c2, rfl, hn2⟩ := hb.shape
  obtain rfl : n2 = n := by have := hn.out; have := hn2.out; omega
  have hah : Hid (Sl U3 w (.slice a1 n2 c1) l) := ha
  have hbh : Hid (Sl U3 w (.slice a2 n2 c2) l) := hb
  have hnb : n2 ≤ 17592186044415 := by have := hn.out; omega
  have hmx := (by kernel_rfl : Tryz.prog.follows Departure.mixedOrders = true)
  clear ha hb hl hn2
  go_enter Tryz.func20, Tryz.ntmps20
  go_wp2
  go_loopw [5] (fun i wr => ∃ k : Nat, k ≤ n2 ∧ i = .int .i64 k ∧ Hid (∃ m, wr = w.drewN m)) (fun i _ => n2 - (intOf i).toNat)
  case atStart => exact ⟨0, Nat.zero_le _, rfl, 0, rfl⟩
  case round =>
    obtain ⟨k, hk, rfl, HA⟩ := hrel
    by_cases hlt : k < n2
    · have hlt' : (k : Int) < (n2 : Int) := by omega
      have hkl : k < l.length := by have := hn.out; omega
      obtain ⟨m0, rfl⟩ := HA.out
      obtain ⟨g0, o0, e0, ck⟩ := hah.out.at k hkl
      obtain ⟨g1, o1, e1, cj⟩ := hbh.out.at k hkl
      subst e0 e1
      unfold U3 at ck cj
      generalize l[k].toNat = q at ck cj
      clear HA
      go_wp2
      go_big_quiet (fail)
      go_wp2
      go_roundw
      case rel => exact ⟨k + 1, hlt, by go_num, m0 + nq, by first | rfl | rw [World.drewN_drewN]⟩
      case measure => simp [intOf]; omega
    · have hlt' : ¬ (k : Int) < (n2 : Int) := by omega
      go_wp2
      go_ret
      exact ⟨rfl, HA.out⟩
end
end Go.Proofs.YtpajkeljgifndaaGreat
