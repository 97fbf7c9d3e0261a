/-
  slices.Compact's body in this program is the one that the library's contract speaks of.
-/
import Derived.Shelf.SlicesE.Compact
import Derived.Test.YtbgoddcpgogpdaaChecked
import Derived.Test.YtbgoddcpgogpdaaIs11
import Derived.Test.YtbgoddcpgogpdaaIshelfToIs8
import Derived.Lib.OwnBridge
namespace Go.Proofs
open Go.Shelf Go.Lib
def Try.lays43_ren : Go.Shelf.Ren := ⟨fun | 43 => 76 | n => n, fun | 0 => 0 | 3 => 3 | 4 => 4 | 22 => 26 | 23 => 33 | n => n, fun | n => n⟩
theorem Try.lays43 : Go.Proofs.SlLaysE.n43 Try.prog Try.lays43_ren := {
  mixed := by kernel_rfl
  f43 := ⟨"slices.Compact[[]uint64,uint64]", by kernel_rfl, Try.func76.trans (congrArg some (by kernel_rfl))⟩
  t0 := Try.underlying0
  a0 := Try.isAgg0
  z0 := Try.sizeOf0
  v0 := Try.zeroValue0
  t3 := Try.underlying3
  a3 := Try.isAgg3
  z3 := Try.sizeOf3
  v3 := Try.zeroValue3
  t4 := Try.underlying4
  a4 := Try.isAgg4
  z4 := Try.sizeOf4
  v4 := Try.zeroValue4
  t22 := Try.underlying26
  a22 := Try.isAgg26
  z22 := Try.sizeOf26
  v22 := Try.zeroValue26
  a23 := Try.isAgg33
  z23 := Try.sizeOf33
}
end Go.Proofs

/-
  The sort: slices.Sort, slices.Compact; set of whatever list.
-/
namespace Go.Proofs.Ytbgoddcpgogpdaa
open Go.RowKit Go.Shelf

/-! ### plain: a sorted row, its runs cut to one, is the set -/
theorem comp_up (D : Array UInt64) (hs : ∀ i j, i < j → j < D.size → ltU D[j]! D[i]! = false) : ∀ m, m ≤ D.size →
    Rises (Lib.compactUpTo D m) ∧ (∀ z, z ∈ Lib.compactUpTo D m ↔ ∃ i, i < m ∧ D[i]! = z)
  | 0, _ => ⟨by simp [Lib.compactUpTo], fun z => by simp [Lib.compactUpTo]⟩
  | m + 1, hm => by
    obtain ⟨h1, h2⟩ := comp_up D hs m (by omega)
    rw [Lib.compactUpTo_succ]
    have hle : ∀ i j, i < j → j < D.size → D[i]!.toNat ≤ D[j]!.toNat := fun i j hij hj => by
      have := hs i j hij hj
      simp only [ltU, decide_eq_false_iff_not, u_lt] at this
      omega
    cases hk : Lib.keeps D m with
    | true =>
      rw [if_pos rfl]
      simp only [Lib.keeps, decide_eq_true_eq] at hk
      refine ⟨List.pairwise_append.2 ⟨h1, by simp, fun a ha b hb => ?_⟩, fun z => ?_⟩
      · obtain ⟨i, hi, rfl⟩ := (h2 a).1 ha
        obtain rfl : b = D[m]! := by simpa using hb
        rcases hk with hk | hk
        · omega
        · rw [u_lt]
          have a1 := hle i m hi (by omega)
          have hne : D[m]!.toNat ≠ D[m - 1]!.toNat := fun e => hk ((u_eq _ _).2 e)
          have a2 := hle (m - 1) m (by omega) (by omega)
          by_cases hi2 : i = m - 1
          · subst hi2; omega
          · have := hle i (m - 1) (by omega) (by omega); omega
      · rw [List.mem_append, h2, List.mem_singleton]
        constructor
        · rintro (⟨i, hi, e⟩ | rfl)
          · exact ⟨i, by omega, e⟩
          · exact ⟨m, by omega, rfl⟩
        · rintro ⟨i, hi, e⟩
          by_cases him : i = m
          · subst him; exact .inr e.symm
          · exact .inl ⟨i, by omega, e⟩
    | false =>
      rw [if_neg (by simp), List.append_nil]
      simp only [Lib.keeps, decide_eq_false_iff_not, not_or, Decidable.not_not] at hk
      refine ⟨h1, fun z => ?_⟩
      rw [h2]
      constructor
      · rintro ⟨i, hi, e⟩
        exact ⟨i, by omega, e⟩
      · rintro ⟨i, hi, e⟩
        by_cases him : i = m
        · subst him; exact ⟨i - 1, by omega, by rw [← hk.2]; exact e⟩
        · exact ⟨i, by omega, e⟩
theorem mem_get (D : Array UInt64) (z : UInt64) : (∃ i, i < D.size ∧ D[i]! = z) ↔ z ∈ D.toList := by
  constructor
  · rintro ⟨i, hi, rfl⟩
    rw [getElem!_pos D i hi]
    exact Array.mem_toList_iff.2 (Array.getElem_mem hi)
  · intro h
    obtain ⟨i, hi, e⟩ := List.getElem_of_mem h
    exact ⟨i, by simpa using hi, by rw [getElem!_pos D i (by simpa using hi)]; simpa using e⟩
theorem comp_set (D : Array UInt64) (l : List UInt64) (hs : ∀ i j, i < j → j < D.size → ltU D[j]! D[i]! = false) (hp : D.toList.Perm l) : Lib.compactUpTo D D.size = setL l := by
  obtain ⟨h1, h2⟩ := comp_up D hs D.size (Nat.le_refl _)
  refine rises_ext _ _ h1 (rises_setL l) fun z => ?_
  rw [h2, mem_get, hp.mem_iff, mem_setL]
/-- what the sort gives of a whole row -/
theorem pdq_set (d : Array UInt64) (limit : Nat) : (Sort.pdq ltU d 0 d.size limit true true).size = d.size ∧ Lib.compactUpTo (Sort.pdq ltU d 0 d.size limit true true) d.size = setL d.toList := by
  obtain ⟨hp, hs⟩ := Sort.pdq_sorts ltU swoU d 0 d.size limit true true (Nat.zero_le _) (Nat.le_refl _) (.inl rfl)
  generalize Sort.pdq ltU d 0 d.size limit true true = P at *
  have e := hp.1
  refine ⟨e, ?_⟩
  have hq := hp.2.2
  have h3 : P.extract 0 d.size = P := by rw [← e]; simp
  rw [h3, show d.extract 0 d.size = d by simp] at hq
  rw [← e]
  exact comp_set P d.toList (fun i j hij hj => hs i j (Nat.zero_le _) hij (by rw [← e]; exact hj)) hq

/-! ### slices.Sort -/
set_option maxRecDepth 100000 in
set_option maxHeartbeats 2000000 in
theorem sort_any (w : World) (g cap n : Nat) (sp : List Value) (d : Array UInt64) (hn : d.size = n) (h : Rw w g sp d) (hsz : n ≤ 17592186044416) :
    Calls Try.prog 75 #[.slice (some ⟨g, 0, none⟩) n cap] w fun e w' => e = .returned (.tuple #[]) ∧ ∃ limit, Stt w g sp n (Sort.pdq ltU d 0 n limit true true) w' := by
  have hb := fun w => bitlen_any (n : Int) w (by omega) (by omega)
  have e : Lib.bitLen (n : Int).toNat = Sort.bitsLen n := bitLen_eq n (by omega)
  rw [e] at hb
  have h45 : (2 : Nat) ^ 45 = 35184372088832 := by decide
  have hL : Sort.bitsLen n ≤ 45 := bitsLen_le n 45 (by omega)
  generalize Sort.bitsLen n = L at *
  have hq := pdq_any (n + 1) w g cap n 0 n L sp d (by omega) hn h (Nat.zero_le _) (Nat.le_refl _) hsz (by omega) (.inl rfl)
  have hw : IntKind.u64.wrap (n : Int) = (n : Int) := by rw [IntKind.wrap_u64]; omega
  have hqh : Hid (Calls Try.prog 80 #[.slice (some ⟨g, 0, none⟩) n cap, .int .i64 0, .int .i64 n, .int .i64 L] w fun e w' => e = .returned (.tuple #[]) ∧ Stt w g sp n (Sort.pdq ltU d 0 n L true true) w') := hq
  clear h e hn hq
  go_enter Try.func75, Try.ntmps75
  go_wp2_with (first | (go_at_call 81; refine (hb _).mono ?_; rintro _ w1 ⟨rfl, hw1⟩; obtain rfl := hw1.symm) | (go_at_call 80; refine hqh.out.mono ?_; rintro _ w2 ⟨rfl, hS⟩))
  go_end0
  exact ⟨rfl, L, hS⟩

/-! ### slices.Compact -/
theorem one6' : OneCell U6 := fun _ => rfl
theorem eql6 (P : Program) (T : TypeId) : EqlAt P T U6 (fun x y => decide (x = y)) :=
  ⟨fun x y w => by
    rw [show U6 x = Value.int .u64 x.toNat from rfl, show U6 y = Value.int .u64 y.toNat from rfl, (EqlAt.intD P T .u64).1]
    congr 2
    rw [decide_eq_decide, u_eq]; omega, fun op a b x y w => (EqlAt.intD P T .u64).2 op a b _ _ w⟩
theorem neq6 (P : Program) (T : TypeId) : NeqAt P T U6 (fun x y => decide (x = y)) :=
  ⟨fun x y w => by
    rw [show U6 x = Value.int .u64 x.toNat from rfl, show U6 y = Value.int .u64 y.toNat from rfl, (NeqAt.intD P T .u64).1]
    congr 3
    rw [decide_eq_decide, u_eq]; omega, fun op a b x y w => (NeqAt.intD P T .u64).2 op a b _ _ w⟩
theorem compact_any (w0 w : World) (g cap n : Nat) (sp : List Value) (d : Array UInt64) (hn : d.size = n) (h : Rw w g sp d) (hsz : n ≤ 17592186044416) (hcap : n ≤ cap) (hcm : cap ≤ maxLen) (hE : Ext w0 w) (hg : w0.heap.size ≤ g) (l : List UInt64) (hl : Lib.compactUpTo d n = l) :
    Calls Try.prog 76 #[.slice (some ⟨g, 0, none⟩) n cap] w fun e w' => ∃ u, e = .returned u ∧ Sl U6 w' u l ∧ Ext w0 w' := by
  subst hn
  have hH : Sort.Holds U6 w g 0 d := fun j hj => by
    rw [Nat.zero_add]; exact ⟨h.cell j hj, h.frozen j⟩
  have hc := AnyE.slices_Compact Try.lays43 U6 one6' (eql6 _ _) (neq6 _ _) 0 Try.zeroValue33 g 0 cap d w hH (by omega) hcap
  refine Calls.mono hc ?_
  rintro e w' ⟨rfl, q, rfl⟩
  have hlen : l.length ≤ d.size := by
    rw [← hl]; unfold Lib.compactUpTo
    rw [List.length_map]
    exact Nat.le_trans (List.length_filter_le ..) (by simp)
  rw [hl]
  refine ⟨_, rfl, sl_of rfl (by omega) hcm fun j hj => ?_, Lib.below_putRow hE hg⟩
  rw [Sort.cell?_putRow U6 (Sort.ahead w q) g 0 d _ hH (by simp; omega) j (by simp; omega)]
  congr 2
  rw [getElem!_pos _ j (by simp; omega)]
  simp [hj]

/-! ### set -/
/-- so many numbers at most -/
def Len9 (l : List UInt64) : Prop := l.length ≤ 17592186044416
theorem row_rw {w : World} {S : Nat → Prop} {u : Value} {l : List UInt64} (h : RowE 33 U6 w S u l) (hl : 0 < l.length) : ∃ g cap sp, u = .slice (some ⟨g, 0, none⟩) l.length cap ∧ S g ∧ l.length ≤ cap ∧ cap ≤ maxLen ∧ Rw w g sp l.toArray := by
  obtain ⟨⟨h1, h2⟩, h3⟩ := h
  rcases h2 with h2 | ⟨g, cap, cur, rfl, _, hg, hc1, hc2, hc3, hc4⟩
  · omega
  · refine ⟨g, cap, cur.toList.drop l.length, rfl, h3 g rfl, hc1, hc2, ?_⟩
    unfold Rw
    rw [hg]
    congr 2
    rw [Nat.mul_one] at hc4
    rw [show (l.toArray).toList = l by simp, ← hc4, List.take_append_drop]
set_option maxRecDepth 100000 in
set_option maxHeartbeats 2000000 in
theorem set_any : SetFor Len9 := by
  intro w v l hC hs
  by_cases hr : Rises l
  · exact set_right w v l hr hs
  have hR := Right_any w v l hs
  have hrb : rightB l = false := decide_eq_false hr
  rw [hrb] at hR
  have hl2 : 0 < l.length := by
    cases l with
    | nil => exact absurd List.Pairwise.nil hr
    | cons => simp
  have hF := fun w1 (h : Ext w w1) => fresh_any w1 v l (hs.ext h) hC
  have hCh : Hid (Len9 l ∧ 0 < l.length) := ⟨hC, hl2⟩
  obtain ⟨a, cap, rfl, h1, h2, h3⟩ := hs
  clear h3 hC hr hrb
  go_enter Try.func71, Try.ntmps71
  go_wp2_with (go_at_call 74; refine hR.mono ?_; rintro _ w1 ⟨rfl, x1⟩)
  go_at_call 70
  refine (hF _ x1).mono ?_
  rintro _ w2 ⟨u, rfl, r2, x2⟩
  obtain ⟨g, cap2, sp, rfl, hg, hc1, hc2, hrw⟩ := row_rw r2 hCh.out.2
  have hgw : w1.heap.size ≤ g := hg
  have hE2 : Hid (Ext w w2) := x1.trans x2
  obtain ⟨n, hn⟩ : ∃ n, n = l.length := ⟨_, rfl⟩
  rw [← hn] at hc1 ⊢
  have hn9 : n ≤ 17592186044416 := by rw [hn]; exact hCh.out.1
  have hsz : l.toArray.size = n := by simp [hn]
  have hso := sort_any w2 g cap2 n sp l.toArray hsz hrw hn9
  have hco := fun w3 (limit : Nat) (hS : Stt w2 g sp n (Sort.pdq ltU l.toArray 0 n limit true true) w3) => compact_any w w3 g cap2 n sp _ hS.1 hS.2.1 hn9 hc1 hc2 ((hE2.out).then hS.2.2 (fun g' hg' => by have e : g' = g := hg'; have := x1.size; omega)) (by have := x1.size; omega) (setL l) (by
    have h9 := (pdq_set l.toArray limit).2
    rw [hsz] at h9
    rw [h9])
  clear hrw r2 x2 hF hR hg
  have hnh : Hid (n = l.length) := hn
  clear hn hsz
  go_wp2_with fail
  go_at_call 75
  refine hso.mono ?_
  rintro _ w3 ⟨rfl, limit, hS⟩
  have hco2 := hco w3 limit hS
  clear hco hS
  go_wp2_with fail
  go_at_call 76
  refine hco2.mono ?_
  rintro _ w4 ⟨u4, rfl, s4, x4⟩
  obtain ⟨a4, n4, cap4, rfl, _⟩ := s4.shape
  go_wp2
  go_ret
  exact ⟨_, rfl, s4, x4⟩
end Go.Proofs.Ytbgoddcpgogpdaa
