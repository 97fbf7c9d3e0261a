/-
  The sort: slices.Sort, slices.Compact; set of whatever list.
-/
import Derived.Test.YtpajkeljgifndaaGreatIs11G
import Derived.Test.YtpajkeljgifndaaGreatIshelf
import Derived.Test.YtpajkeljgifndaaGreatIshelf2G
import Derived.Lib.OwnBridge
namespace Go.Proofs.YtpajkeljgifndaaGreat
namespace G3
open Go.RowKit Go.Shelf

/-! ### plain: a sorted row, its runs cut to one, is the set -/
theorem comp_up (D : Array UInt32) (hs : ∀ i j, i < j → j < D.size → ltU D[j]! D[i]! = false) : ∀ m, m ≤ D.size →
    Rises (Lib.compactUpTo D m) ∧ (∀ z, z ∈ Lib.compactUpTo D m ↔ ∃ i, i < m ∧ D[i]! = z)
  | 0, _ => ⟨by simp [Lib.compactUpTo], fun z => by simp [Lib.compactUpTo]⟩
  | m + 1, hm => by
    obtain ⟨h1, h2⟩ := comp_up D hs m (by omega)
    rw [Lib.compactUpTo_succ]
    have hle : ∀ i j, i < j → j < D.size → D[i]!.toNat ≤ D[j]!.toNat := fun i j hij hj => by
      have := hs i j hij hj
      simp only [ltU, decide_eq_false_iff_not, u_lt] at this
      omega
    cases hk : Lib.keeps D m with
    | true =>
      rw [if_pos rfl]
      simp only [Lib.keeps, decide_eq_true_eq] at hk
      refine ⟨List.pairwise_append.2 ⟨h1, by simp, fun a ha b hb => ?_⟩, fun z => ?_⟩
      · obtain ⟨i, hi, rfl⟩ := (h2 a).1 ha
        obtain rfl : b = D[m]! := by simpa using hb
        rcases hk with hk | hk
        · omega
        · rw [u_lt]
          have a1 := hle i m hi (by omega)
          have hne : D[m]!.toNat ≠ D[m - 1]!.toNat := fun e => hk ((u_eq _ _).2 e)
          have a2 := hle (m - 1) m (by omega) (by omega)
          by_cases hi2 : i = m - 1
          · subst hi2; omega
          · have := hle i (m - 1) (by omega) (by omega); omega
      · rw [List.mem_append, h2, List.mem_singleton]
        constructor
        · rintro (⟨i, hi, e⟩ | rfl)
          · exact ⟨i, by omega, e⟩
          · exact ⟨m, by omega, rfl⟩
        · rintro ⟨i, hi, e⟩
          by_cases him : i = m
          · subst him; exact .inr e.symm
          · exact .inl ⟨i, by omega, e⟩
    | false =>
      rw [if_neg (by simp), List.append_nil]
      simp only [Lib.keeps, decide_eq_false_iff_not, not_or, Decidable.not_not] at hk
      refine ⟨h1, fun z => ?_⟩
      rw [h2]
      constructor
      · rintro ⟨i, hi, e⟩
        exact ⟨i, by omega, e⟩
      · rintro ⟨i, hi, e⟩
        by_cases him : i = m
        · subst him; exact ⟨i - 1, by omega, by rw [← hk.2]; exact e⟩
        · exact ⟨i, by omega, e⟩
theorem mem_get (D : Array UInt32) (z : UInt32) : (∃ i, i < D.size ∧ D[i]! = z) ↔ z ∈ D.toList := by
  constructor
  · rintro ⟨i, hi, rfl⟩
    rw [getElem!_pos D i hi]
    exact Array.mem_toList_iff.2 (Array.getElem_mem hi)
  · intro h
    obtain ⟨i, hi, e⟩ := List.getElem_of_mem h
    exact ⟨i, by simpa using hi, by rw [getElem!_pos D i (by simpa using hi)]; simpa using e⟩
theorem comp_set (D : Array UInt32) (l : List UInt32) (hs : ∀ i j, i < j → j < D.size → ltU D[j]! D[i]! = false) (hp : D.toList.Perm l) : Lib.compactUpTo D D.size = setL l := by
  obtain ⟨h1, h2⟩ := comp_up D hs D.size (Nat.le_refl _)
  refine rises_ext _ _ h1 (rises_setL l) fun z => ?_
  rw [h2, mem_get, hp.mem_iff, mem_setL]
/-- what the sort gives of a whole row -/
theorem pdq_set (d : Array UInt32) (limit : Nat) : (Sort.pdq ltU d 0 d.size limit true true).size = d.size ∧ Lib.compactUpTo (Sort.pdq ltU d 0 d.size limit true true) d.size = setL d.toList := by
  obtain ⟨hp, hs⟩ := Sort.pdq_sorts ltU swoU d 0 d.size limit true true (Nat.zero_le _) (Nat.le_refl _) (.inl rfl)
  generalize Sort.pdq ltU d 0 d.size limit true true = P at *
  have e := hp.1
  refine ⟨e, ?_⟩
  have hq := hp.2.2
  have h3 : P.extract 0 d.size = P := by rw [← e]; simp
  rw [h3, show d.extract 0 d.size = d by simp] at hq
  rw [← e]
  exact comp_set P d.toList (fun i j hij hj => hs i j (Nat.zero_le _) hij (by rw [← e]; exact hj)) hq

/-! ### slices.Sort -/
set_option maxRecDepth 100000 in
set_option maxHeartbeats 2000000 in
theorem sort_any (w : World) (g cap n : Nat) (sp : List Value) (d : Array UInt32) (hn : d.size = n) (h : Rw w g sp d) (hsz : n ≤ 17592186044416) :
    Calls Tryz.prog 44 #[.slice (some ⟨g, 0, none⟩) n cap] w fun e w' => e = .returned (.tuple #[]) ∧ ∃ limit, Stt w g sp n (Sort.pdq ltU d 0 n limit true true) w' := by
  have hb := fun w => bitlen_any (n : Int) w (by omega) (by omega)
  have e : Lib.bitLen (n : Int).toNat = Sort.bitsLen n := bitLen_eq n (by omega)
  rw [e] at hb
  have h45 : (2 : Nat) ^ 45 = 35184372088832 := by decide
  have hL : Sort.bitsLen n ≤ 45 := bitsLen_le n 45 (by omega)
  generalize Sort.bitsLen n = L at *
  have hq := pdq_any (n + 1) w g cap n 0 n L sp d (by omega) hn h (Nat.zero_le _) (Nat.le_refl _) hsz (by omega) (.inl rfl)
  have hw : IntKind.u64.wrap (n : Int) = (n : Int) := by rw [IntKind.wrap_u64]; omega
  have hqh : Hid (Calls Tryz.prog 57 #[.slice (some ⟨g, 0, none⟩) n cap, .int .i64 0, .int .i64 n, .int .i64 L] w fun e w' => e = .returned (.tuple #[]) ∧ Stt w g sp n (Sort.pdq ltU d 0 n L true true) w') := hq
  clear h e hn hq
  go_enter Tryz.func44, Tryz.ntmps44
  go_wp2_with (first | (go_at_call 49; refine (hb _).mono ?_; rintro _ w1 ⟨rfl, hw1⟩; obtain rfl := hw1.symm) | (go_at_call 57; refine hqh.out.mono ?_; rintro _ w2 ⟨rfl, hS⟩))
  go_end0
  exact ⟨rfl, L, hS⟩

/-! ### slices.Compact -/
theorem one3' : OneCell U3 := fun _ => rfl
theorem eql3 (P : Program) (T : TypeId) : EqlAt P T U3 (fun x y => decide (x = y)) :=
  ⟨fun x y w => by
    rw [show U3 x = Value.int .u32 x.toNat from rfl, show U3 y = Value.int .u32 y.toNat from rfl, (EqlAt.intD P T .u32).1]
    congr 2
    rw [decide_eq_decide, u_eq]; omega, fun op a b x y w => (EqlAt.intD P T .u32).2 op a b _ _ w⟩
theorem neq3 (P : Program) (T : TypeId) : NeqAt P T U3 (fun x y => decide (x = y)) :=
  ⟨fun x y w => by
    rw [show U3 x = Value.int .u32 x.toNat from rfl, show U3 y = Value.int .u32 y.toNat from rfl, (NeqAt.intD P T .u32).1]
    congr 3
    rw [decide_eq_decide, u_eq]; omega, fun op a b x y w => (NeqAt.intD P T .u32).2 op a b _ _ w⟩
theorem compact_any (w0 w : World) (g cap n : Nat) (sp : List Value) (d : Array UInt32) (hn : d.size = n) (h : Rw w g sp d) (hsz : n ≤ 17592186044416) (hcap : n ≤ cap) (hcm : cap ≤ maxLen) (hE : Ext w0 w) (hg : w0.heap.size ≤ g) (l : List UInt32) (hl : Lib.compactUpTo d n = l) :
    Calls Tryz.prog 45 #[.slice (some ⟨g, 0, none⟩) n cap] w fun e w' => ∃ u, e = .returned u ∧ Sl U3 w' u l ∧ Ext w0 w' := by
  subst hn
  have hH : Sort.Holds U3 w g 0 d := fun j hj => by
    rw [Nat.zero_add]; exact ⟨h.cell j hj, h.frozen j⟩
  have hc := AnyE.slices_Compact Tryz.lays43g U3 one3' (eql3 _ _) (neq3 _ _) 0 Tryz.zeroValue38 g 0 cap d w hH (by omega) hcap
  refine Calls.mono hc ?_
  rintro e w' ⟨rfl, q, rfl⟩
  have hlen : l.length ≤ d.size := by
    rw [← hl]; unfold Lib.compactUpTo
    rw [List.length_map]
    exact Nat.le_trans (List.length_filter_le ..) (by simp)
  rw [hl]
  refine ⟨_, rfl, sl_of rfl (by omega) hcm fun j hj => ?_, Lib.below_putRow hE hg⟩
  rw [Sort.cell?_putRow U3 (Sort.ahead w q) g 0 d _ hH (by simp; omega) j (by simp; omega)]
  congr 2
  rw [getElem!_pos _ j (by simp; omega)]
  simp [hj]

/-! ### rows -/
theorem row_rw {w : World} {S : Nat → Prop} {u : Value} {l : List UInt32} (h : RowE 38 U3 w S u l) (hl : 0 < l.length) : ∃ g cap sp, u = .slice (some ⟨g, 0, none⟩) l.length cap ∧ S g ∧ l.length ≤ cap ∧ cap ≤ maxLen ∧ Rw w g sp l.toArray := by
  obtain ⟨⟨h1, h2⟩, h3⟩ := h
  rcases h2 with h2 | ⟨g, cap, cur, rfl, _, hg, hc1, hc2, hc3, hc4⟩
  · omega
  · refine ⟨g, cap, cur.toList.drop l.length, rfl, h3 g rfl, hc1, hc2, ?_⟩
    unfold Rw
    rw [hg]
    congr 2
    rw [Nat.mul_one] at hc4
    rw [show (l.toArray).toList = l by simp, ← hc4, List.take_append_drop]
end G3
end Go.Proofs.YtpajkeljgifndaaGreat
