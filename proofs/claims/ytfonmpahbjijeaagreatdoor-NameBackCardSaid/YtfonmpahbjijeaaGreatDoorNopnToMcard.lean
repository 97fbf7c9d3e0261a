/-
  A name and a part that come in.
-/
import Derived.Test.YtfonmpahbjijeaaGreatDoorNparseToShelf3
import Derived.SizedLaws
import Derived.ProofKit
import Derived.OpenShut
import Derived.ChangeSame
import Derived.Test.YtfonmpahbjijeaaGreatDoorRows
import Derived.Test.YtfonmpahbjijeaaGreatDoorKeyToSleaf
import Derived.ReadAgain
namespace Go.Proofs.YtfonmpahbjijeaaGreatDoor
open Go.ChangeShapes Go.WideShapes Go.ChangeAt Go.RowKit

set_option maxRecDepth 100000
theorem oc_ava : Tryz.prog.cellsOf 56 = 2 := by kernel_rfl
theorem oc_rdn : Tryz.prog.cellsOf 45 = 1 := by kernel_rfl
theorem oc_name : Tryz.prog.cellsOf 24 = 1 := by kernel_rfl
theorem oc_str : Tryz.prog.cellsOf 9 = 1 := by kernel_rfl
theorem oc_avas : Tryz.prog.cellsOf 43 = 1 := by kernel_rfl
theorem oc_rdns : Tryz.prog.cellsOf 22 = 1 := by kernel_rfl
theorem oneL {α : Type} {l : List α} (h : l.length = 1) : ∃ a, l = [a] := by
  match l, h with
  | [a], _ => exact ⟨a, rfl⟩
theorem twoL {α : Type} {l : List α} (h : l.length = 2) : ∃ a b, l = [a, b] := by
  match l, h with
  | [a, b], _ => exact ⟨a, b, rfl⟩
theorem weights_all_mem6 {H : Type} {P : Program} {e : TypeId} {d : DataW H} {n : Nat} : ∀ {ds : List (DataW H)}, d ∈ ds → n ∈ d.weights P e → n ∈ DataW.weightsAll P e ds
  | [], h, _ => by simp at h
  | d0 :: ds, h, hn => by
    simp only [DataW.weightsAll, List.mem_append]
    rcases List.mem_cons.1 h with rfl | h1
    · exact .inl hn
    · exact .inr (weights_all_mem6 h1 hn)
theorem flatA_get (l : List Av) : ∀ (j : Nat) (u : Value), (flatA l)[j]? = some u → ∃ (k : Nat) (h : k < l.length), (j = k * 2 ∧ u = .string l[k].t) ∨ (j = k * 2 + 1 ∧ u = .string l[k].v) := by
  induction l with
  | nil => intro j u h; simp [flatA] at h
  | cons x l ih =>
    intro j u h
    have e2 : flatA (x :: l) = .string x.t :: .string x.v :: flatA l := rfl
    rw [e2] at h
    match j, h with
    | 0, h => exact ⟨0, by simp, .inl ⟨rfl, by simpa using h.symm⟩⟩
    | 1, h => exact ⟨0, by simp, .inr ⟨rfl, by simpa using h.symm⟩⟩
    | j + 2, h =>
      obtain ⟨k, hk, hh⟩ := ih j u (by simpa using h)
      refine ⟨k + 1, by simpa using hk, ?_⟩
      rcases hh with ⟨rfl, e⟩ | ⟨rfl, e⟩
      · exact .inl ⟨by omega, by simpa using e⟩
      · exact .inr ⟨by omega, by simpa using e⟩
def avD {H : Type} (x : Av) : DataW H := .agg [.lit (.string x.t.data.toList), .lit (.string x.v.data.toList)]
theorem avD_weight {H : Type} (x : Av) : x.t.size ∈ (avD (H := H) x).weights Tryz.prog 56 ∧ x.v.size ∈ (avD (H := H) x).weights Tryz.prog 56 := by
  have hu := Tryz.underlying56
  simp [avD, DataW.weights, hu, DataW.weightsEach]
theorem ava_cells {H : Type} {enc : TypeId × Value → H} {W : World} {sp : Nat → Bool} {n : Nat} {cs : List Value} {x : DataW H × List MemPlace} (h : DataW.trod enc Tryz.prog W 0 sp true n 56 cs = some x) : ∃ a : Av, cs = [.string a.t, .string a.v] ∧ x.1 = avD a := by
  obtain ⟨y0, y1, m, rfl, hl, f0, f1⟩ := trod_struct2 Tryz.underlying56 h
  rw [oc_ava] at hl
  obtain ⟨c0, c1, rfl⟩ := twoL hl
  change DataW.trod _ _ _ _ _ _ _ 9 (([c0, c1].drop 0).take (Tryz.prog.cellsOf 9)) = some y0 at f0
  change DataW.trod _ _ _ _ _ _ _ 9 (([c0, c1].drop 1).take (Tryz.prog.cellsOf 9)) = some y1 at f1
  rw [oc_str] at f0 f1
  obtain ⟨z0, h0, e0, _⟩ := DataW.trod_string Tryz.underlying9 f0
  obtain ⟨z1, h1, e1, _⟩ := DataW.trod_string Tryz.underlying9 f1
  simp only [List.drop_succ_cons, List.drop_zero, List.take_succ_cons, List.take_zero, List.cons.injEq, and_true] at h0 h1
  subst h0 h1 e0 e1
  exact ⟨⟨z0, z1⟩, rfl, rfl⟩
theorem add_add6 (a : Addr) (i j : Nat) : (a.add i).add j = a.add (i + j) := by
  unfold Addr.add
  split <;> split <;> split <;> simp_all <;> omega
theorem open_avas {H : Type} {enc : TypeId × Value → H} {W : World} {sp : Nat → Bool} {n : Nat} {u : Value} {x : DataW H × List MemPlace} (h : DataW.trod enc Tryz.prog W 0 sp true n 43 [u] = some x) (hb : ∀ n ∈ x.1.weights Tryz.prog 43, n ≤ reachBytes) : ∃ l : List Av, AvSl W u l ∧ Fits l := by
  rcases DataW.trod_slice Tryz.underlying43 h with ⟨h0, _⟩ | ⟨a, len, cap, elems, rest, m, rfl, h0, hx, _, hl, hm, hlen, hel, _, _⟩
  · simp only [List.cons.injEq, and_true] at h0
    subst h0
    exact ⟨[], ⟨none, 0, rfl, Nat.le_refl _, Nat.zero_le _, fun h => absurd rfl h⟩, fun a ha => by simp at ha⟩
  · simp only [List.cons.injEq, and_true] at h0
    subst h0
    rw [oc_ava] at hel
    have hstep : ∀ i, i < len → ∃ x : Av, (W.cell? (a.add (i * 2)) = some (.string x.t) ∧ W.cell? (a.add (i * 2 + 1)) = some (.string x.v)) ∧ x.t.size ≤ 140737488355328 ∧ x.v.size ≤ 140737488355328 := by
      intro i hi
      have h1 := hel i hi
      rw [List.getElem?_eq_getElem (by omega)] at h1
      obtain ⟨cs, hcs, hcs2⟩ := Option.bind_eq_some_iff.1 h1
      obtain ⟨y, rfl, ex⟩ := ava_cells hcs2
      have hw : ∀ n ∈ (avD (H := H) y).weights Tryz.prog 56, n ≤ reachBytes := by
        intro k hk
        refine hb _ ?_
        rw [hx]
        simp only [DataW.weights, Tryz.underlying43]
        refine List.mem_cons_of_mem _ (List.mem_append_left _ ?_)
        refine weights_all_mem6 (d := avD y) ?_ hk
        rw [List.mem_map]
        exact ⟨elems[i], List.getElem_mem _, ex⟩
      have hr := reachBytes_lt
      have c0 := (World.cells?_some hcs).2.2 0 (by omega)
      have c1 := (World.cells?_some hcs).2.2 1 (by omega)
      rw [add_add6] at c0 c1
      refine ⟨y, ⟨by simpa using c0, by simpa using c1⟩, ?_, ?_⟩
      · have := hw _ (avD_weight y).1; omega
      · have := hw _ (avD_weight y).2; omega
    by_cases hl0 : len = 0
    · subst hl0
      exact ⟨[], ⟨some a, cap, rfl, Nat.zero_le _, hm, fun h => absurd rfl h⟩, fun a ha => by simp at ha⟩
    have hspot : a.spot = none := by
      obtain ⟨x, ⟨hc, _⟩, _⟩ := hstep 0 (by omega)
      simpa [Addr.add] using World.cell?_spot hc
    obtain ⟨ab, ao, spot⟩ := a
    simp only at hspot
    subst hspot
    obtain ⟨f, hf⟩ : ∃ f : Fin len → Av, ∀ i : Fin len, (W.cell? ((⟨ab, ao, none⟩ : Addr).add (i.val * 2)) = some (.string (f i).t) ∧ W.cell? ((⟨ab, ao, none⟩ : Addr).add (i.val * 2 + 1)) = some (.string (f i).v)) ∧ (f i).t.size ≤ 140737488355328 ∧ (f i).v.size ≤ 140737488355328 :=
      ⟨fun i => Classical.choose (hstep i.val i.isLt), fun i => Classical.choose_spec (hstep i.val i.isLt)⟩
    refine ⟨List.ofFn f, ⟨some ⟨ab, ao, none⟩, cap, by simp, by simpa using hl, hm, fun _ => ⟨ab, ao, rfl, fun j u hu => ?_⟩⟩, ?_⟩
    · obtain ⟨k, hk, hh⟩ := flatA_get _ j u hu
      have hk' : k < len := by simpa using hk
      obtain ⟨⟨h1, h2⟩, _⟩ := hf ⟨k, hk'⟩
      simp only [Addr.add_lit] at h1 h2
      rcases hh with ⟨rfl, rfl⟩ | ⟨rfl, rfl⟩
      · rw [h1]; simp
      · rw [h2]; simp
    · intro a ha
      obtain ⟨i, rfl⟩ := List.mem_ofFn.1 ha
      exact (hf i).2
theorem open_rdn_c {H : Type} {enc : TypeId × Value → H} {W : World} {sp : Nat → Bool} {n : Nat} {cs : List Value} {x : DataW H × List MemPlace} (h : DataW.trod enc Tryz.prog W 0 sp true n 45 cs = some x) (hb : ∀ n ∈ x.1.weights Tryz.prog 45, n ≤ reachBytes) : ∃ (u : Value) (l : List Av), cs = [u] ∧ AvSl W u l ∧ Fits l := by
  obtain ⟨y0, m, rfl, hl, f0⟩ := trod_struct1 Tryz.underlying45 h
  rw [oc_rdn] at hl
  obtain ⟨c0, rfl⟩ := oneL hl
  change DataW.trod _ _ _ _ _ _ _ 43 (([c0].drop 0).take (Tryz.prog.cellsOf 43)) = some y0 at f0
  rw [oc_avas] at f0
  obtain ⟨l, hl, hf⟩ := open_avas (u := c0) f0 (fun n hn => hb n (by
    have hu := Tryz.underlying45
    simpa [DataW.weights, hu, DataW.weightsEach] using hn))
  exact ⟨c0, l, rfl, hl, hf⟩
theorem open_rdns {H : Type} {enc : TypeId × Value → H} {W : World} {sp : Nat → Bool} {n : Nat} {u : Value} {x : DataW H × List MemPlace} (h : DataW.trod enc Tryz.prog W 0 sp true n 22 [u] = some x) (hb : ∀ n ∈ x.1.weights Tryz.prog 22, n ≤ reachBytes) : ∃ (us : List Value) (pts : List (List Av)), NmIn W u us pts ∧ ∀ l ∈ pts, Fits l := by
  rcases DataW.trod_slice Tryz.underlying22 h with ⟨h0, _⟩ | ⟨a, len, cap, elems, rest, m, rfl, h0, hx, _, hl, hm, hlen, hel, _, _⟩
  · simp only [List.cons.injEq, and_true] at h0
    subst h0
    exact ⟨[], [], ⟨sl_nil rfl (Nat.zero_le _), rfl, fun i h => by simp at h⟩, fun a ha => by simp at ha⟩
  · simp only [List.cons.injEq, and_true] at h0
    subst h0
    rw [oc_rdn] at hel
    have hstep : ∀ i, i < len → ∃ x : Value × List Av, W.cell? (a.add (i * 1)) = some x.1 ∧ AvSl W x.1 x.2 ∧ Fits x.2 := by
      intro i hi
      have h1 := hel i hi
      rw [List.getElem?_eq_getElem (by omega)] at h1
      obtain ⟨cs, hcs, hcs2⟩ := Option.bind_eq_some_iff.1 h1
      obtain ⟨y, l, rfl, hy, hf⟩ := open_rdn_c hcs2 (fun k hk => by
        refine hb _ ?_
        rw [hx]
        simp only [DataW.weights, Tryz.underlying22]
        refine List.mem_cons_of_mem _ (List.mem_append_left _ ?_)
        refine weights_all_mem6 ?_ hk
        rw [List.mem_map]
        exact ⟨elems[i], List.getElem_mem _, rfl⟩)
      have c0 := (World.cells?_some hcs).2.2 0 (by omega)
      rw [add_add6] at c0
      exact ⟨(y, l), by simpa using c0, hy, hf⟩
    by_cases hl0 : len = 0
    · subst hl0
      exact ⟨[], [], ⟨sl_nil rfl hm, rfl, fun i h => by simp at h⟩, fun a ha => by simp at ha⟩
    have hspot : a.spot = none := by
      obtain ⟨x, hc, _⟩ := hstep 0 (by omega)
      simpa [Addr.add] using World.cell?_spot hc
    obtain ⟨ab, ao, spot⟩ := a
    simp only at hspot
    subst hspot
    obtain ⟨f, hf⟩ : ∃ f : Fin len → Value × List Av, ∀ i : Fin len, W.cell? ((⟨ab, ao, none⟩ : Addr).add (i.val * 1)) = some (f i).1 ∧ AvSl W (f i).1 (f i).2 ∧ Fits (f i).2 :=
      ⟨fun i => Classical.choose (hstep i.val i.isLt), fun i => Classical.choose_spec (hstep i.val i.isLt)⟩
    refine ⟨List.ofFn (fun i => (f i).1), List.ofFn (fun i => (f i).2), ⟨sl_of (by simp) hl hm fun j hj => ?_, by simp, fun i h h' => ?_⟩, ?_⟩
    · have hj' : j < len := by simpa using hj
      have := (hf ⟨j, hj'⟩).1
      simp only [Addr.add_lit, Nat.mul_one] at this
      rw [this]; simp
    · have hi' : i < len := by simpa using h
      have := (hf ⟨i, hi'⟩).2.1
      simpa using this
    · intro a ha
      obtain ⟨i, rfl⟩ := List.mem_ofFn.1 ha
      exact (hf i).2.2
theorem open_name {H : Type} {enc : TypeId × Value → H} {W : World} {base : Nat} {v : Value} {d : DataW H} {p : List MemPlace} (hval : Value.okWide Tryz.prog W .any base 24 v) (h : DataW.Trod enc Tryz.prog W 0 (fun _ => true) true 24 v d p) (hb : ∀ n ∈ d.weights Tryz.prog 24, n ≤ reachBytes) :
    ∃ (u : Value) (us : List Value) (pts : List (List Av)), v = .agg #[u] ∧ NmIn W u us pts ∧ ∀ l ∈ pts, Fits l := by
  obtain ⟨cs, rfl, hcs⟩ := okWide_struct Tryz.underlying24 hval
  obtain ⟨fuel, hf⟩ := h
  obtain ⟨y0, m, e, hl, f0⟩ := trod_struct1 Tryz.underlying24 hf
  rw [oc_name] at hl
  simp only [Value.cells] at hl f0
  obtain ⟨c0, hc0⟩ := oneL hl
  obtain rfl : cs = #[c0] := by rw [← Array.toList_inj]; exact hc0
  change DataW.trod _ _ _ _ _ _ _ 22 (([c0].drop 0).take (Tryz.prog.cellsOf 22)) = some y0 at f0
  rw [oc_rdns] at f0
  simp only [Prod.mk.injEq] at e
  obtain ⟨rfl, _⟩ := e
  obtain ⟨us, pts, hn, hf⟩ := open_rdns (u := c0) f0 (fun n hn => hb n (by
    have hu := Tryz.underlying24
    simpa [DataW.weights, hu, DataW.weightsEach] using hn))
  exact ⟨c0, us, pts, rfl, hn, hf⟩
theorem open_rdn {H : Type} {enc : TypeId × Value → H} {W : World} {base : Nat} {v : Value} {d : DataW H} {p : List MemPlace} (hval : Value.okWide Tryz.prog W .any base 45 v) (h : DataW.Trod enc Tryz.prog W 0 (fun _ => true) true 45 v d p) (hb : ∀ n ∈ d.weights Tryz.prog 45, n ≤ reachBytes) :
    ∃ (u : Value) (l : List Av), v = .agg #[u] ∧ AvSl W u l ∧ Fits l := by
  obtain ⟨cs, rfl, hcs⟩ := okWide_struct Tryz.underlying45 hval
  obtain ⟨fuel, hf⟩ := h
  obtain ⟨u, l, e, h1, h2⟩ := open_rdn_c hf hb
  simp only [Value.cells] at e
  obtain rfl : cs = #[u] := by rw [← Array.toList_inj]; exact e
  exact ⟨u, l, rfl, h1, h2⟩
end Go.Proofs.YtfonmpahbjijeaaGreatDoor

/-
  What every statement's card needs: arguments that nobody wrote read behind the call as they did.
-/
namespace Go.Proofs.YtfonmpahbjijeaaGreatDoor
open Go.ChangeShapes Go.WideShapes Go.ChangeAt Go.RowKit

theorem ownKnob_none : ownKnob Tryz.prog.godebug = none := by kernel_rfl
theorem kids : Kids Tryz.prog (· < Tryz.prog.types.size) := kids_rows (by kernel_rfl) (by kernel_rfl)
theorem full : ∀ t e, t < Tryz.prog.types.size → Tryz.prog.underlying t = some (.slice e) → 0 < Tryz.prog.cellsOf e := slices_full_of Tryz.prog (by kernel_rfl)

theorem trodAll_carry {H : Type} {enc : TypeId × Value → H} {W W' : World} {sp : Nat → Bool} : ∀ {ts : List TypeId} {vs : List Value} {ds : List (DataW H)} {ps : List MemPlace}, DataW.TrodAll enc Tryz.prog W 0 sp true ts vs ds ps → (∀ p ∈ ps, W.sameAt W' p) → DataW.TrodAll enc Tryz.prog W' 0 sp true ts vs ds ps
  | [], [], [], _, h, _ => h
  | _ :: _, _ :: _, _ :: _, _, ⟨p, q, ⟨n, h1⟩, h2, e⟩, hs => ⟨p, q, ⟨n, DataW.trod_carry n _ _ _ h1 (fun x hx => hs x (by rw [e]; exact List.mem_append_left _ hx))⟩, trodAll_carry h2 (fun x hx => hs x (by rw [e]; exact List.mem_append_right _ hx)), e⟩

/-- the arguments, read again -/
theorem args_again {H : Type} {enc : TypeId × Value → H} {W W' : World} {ts : List TypeId} {vs : List Value} {ds : List (DataW H)} {ps : List MemPlace} (ht : ∀ t ∈ ts, t < Tryz.prog.types.size) (h : DataW.TrodAll enc Tryz.prog W 0 (fun _ => true) true ts vs ds ps) (hlt : ∀ p ∈ ps, p.block < W.heap.size) (hx : Ext W W') :
    DataW.TrodAll enc Tryz.prog W' 0 (fun b => decide (b < W.heap.size)) true ts vs ds ps :=
  trodAll_carry (DataW.TrodAll.respare kids full ht h (fun p hp => by simpa using hlt p hp)) (fun p hp => Below.same hx (hlt p hp))
end Go.Proofs.YtfonmpahbjijeaaGreatDoor
