/-
  A tree: Nearest.
-/
import Derived.Test.YtbgoddcpgogpdaaNst5ToTrb
import Derived.Test.YtbgoddcpgogpdaaBrm
namespace Go.Proofs.Ytbgoddcpgogpdaa
open Go.RowKit Go.Shelf Go.Maps
/-- how many bytes of a key stand -/
def nearN (t : Tr ByteArray UInt64) (k : ByteArray) : Nat → List ByteArray → Nat
  | s, [] => s
  | s, x :: xs => if hasT t (k.extract 0 (s + x.size)) = true then nearN t k (s + x.size) xs else s
def sizes (l : List ByteArray) : Nat := (l.map (·.size)).sum
theorem sizes_steps (k : ByteArray) : sizes (stepsV (byt k)) ≤ k.size := by
  unfold stepsV
  cases e : stepsL (byt k) with
  | none => exact Nat.zero_le _
  | some q =>
    have h := congrArg List.length (stepsL_join _ _ q (Nat.le_refl _) e).1
    rw [List.length_flatten, byt_length] at h
    show (List.map _ (q.map str)).sum ≤ _
    rw [List.map_map, ← h]
    apply Nat.le_of_eq
    apply congrArg List.sum
    apply List.map_congr_left
    intro a _
    show (str a).size = a.length
    rw [← byt_length, byt_str]
theorem sizes_at (l : List ByteArray) (i : Nat) (h : i < l.length) : sizes (l.take i) + l[i].size ≤ sizes l ∧ sizes (l.take (i + 1)) = sizes (l.take i) + l[i].size := by
  have h2 : sizes (l.take (i + 1)) = sizes (l.take i) + l[i].size := by
    unfold sizes
    rw [List.take_succ_eq_append_getElem h, List.map_append, List.sum_append]
    simp
  have h3 : sizes l = sizes (l.take (i + 1)) + sizes (l.drop (i + 1)) := by
    unfold sizes
    rw [← List.sum_append, ← List.map_append, List.take_append_drop]
  omega
set_option maxRecDepth 100000 in
theorem Nearest_nil (w : World) (k : ByteArray) : Calls Try.prog 15 #[.pointer none, .string k] w fun e w' => e = .returned (.tuple #[.string ⟨#[]⟩, .bool false]) ∧ w' = w := by
  go_enter Try.func15, Try.ntmps15
  go_wp2
  go_ret2
  exact ⟨rfl, rfl⟩
set_option maxRecDepth 100000 in
set_option maxHeartbeats 2000000 in
theorem Nearest_any (w : World) (T B M n : Nat) (t : Tr ByteArray UInt64) (f : UInt64 → Option ByteArray) (h : TrAt w T B M t f n) (k : ByteArray) (hk : k.size ≤ 1000000000) :
    Calls Try.prog 15 #[.pointer (some ⟨T, 0, none⟩), .string k] w fun e w' => e = .returned (.tuple #[.string (k.extract 0 (nearN t k 0 (stepsV (byt k)))), .bool (decide (0 < nearN t k 0 (stepsV (byt k))))]) ∧ Ext w w' := by
  have hS := Steps_any w k hk
  have hH : Hid (∀ W (x : Ext w W) (q : ByteArray), Calls Try.prog 29 #[.pointer (some ⟨T, 0, none⟩), .string q] W fun e w' => e = .returned (.bool (hasT t q)) ∧ Ext W w') := fun W (x : Ext w W) (q : ByteArray) => has_any W T B M n t f (h.ext x) q
  have hle := sizes_steps k
  obtain ⟨N, hN⟩ : ∃ N, Hid (N = nearN t k 0 (stepsV (byt k))) := ⟨_, rfl⟩
  rw [← hN.out]
  clear h
  go_enter Try.func15, Try.ntmps15
  go_wp2_with fail
  go_at_call 28
  refine hS.mono ?_
  rintro _ w1 ⟨x1, v, rfl, hrow⟩
  obtain ⟨ra, rc, hre⟩ := row_slice hrow
  subst hre
  obtain ⟨L, hL⟩ : ∃ L, Hid (L = stepsV (byt k)) := ⟨_, rfl⟩
  rw [← hL.out] at hrow hle hN ⊢
  have hcap := hrow.sl.len
  obtain ⟨-, hc2, hc3⟩ := hcap
  unfold maxLen at hc3
  have hrh : Hid (RowE 9 encS w1 (fun k => w.heap.size ≤ k) (.slice ra L.length rc) L) := hrow
  clear hrow hS
  go_wp2_with fail
  go_loopw [6, 14] (fun x6 x14 wr => ∃ i : Nat, i ≤ L.length ∧ x14 = .int .i64 i ∧ x6 = .int .i64 (sizes (L.take i)) ∧ Hid (nearN t k (sizes (L.take i)) (L.drop i) = N ∧ Ext w1 wr)) (fun _ i _ => L.length - (intOf i).toNat)
  case atStart => exact ⟨0, Nat.zero_le _, rfl, rfl, ⟨by rw [hN.out]; rfl, Ext.refl _⟩⟩
  case round =>
    obtain ⟨i, hi, rfl, rfl, hP⟩ := hrel
    obtain ⟨hP1, hP2⟩ := hP.out
    obtain ⟨s, hs⟩ : ∃ s, Hid (s = sizes (L.take i)) := ⟨_, rfl⟩
    by_cases hlt : i < L.length
    · have hii : (i : Int) < (L.length : Int) := by omega
      obtain ⟨z1, z2⟩ := sizes_at L i hlt
      rw [← hs.out] at z1 z2 hP1 ⊢
      obtain ⟨g, o1, hra, hcc⟩ := (hrh.out.ext hP2).sl.at i hlt
      subst hra
      simp only [encS] at hcc
      have hdr : L.drop i = L[i] :: L.drop (i + 1) := List.drop_eq_getElem_cons hlt
      obtain ⟨x, hx⟩ : ∃ x, Hid (x = L[i]'hlt) := ⟨_, rfl⟩
      rw [← hx.out] at hcc z1 z2 hdr
      rw [hdr] at hP1
      have hsk : s + x.size ≤ k.size := by omega
      have hw : IntKind.i64.wrap ((s : Int) + (x.size : Int)) = (s : Int) + (x.size : Int) := by rw [IntKind.wrap_i64]; omega
      have hHx := hH.out wr (x1.trans hP2) (k.extract 0 (s + x.size))
      have hn1 : Hid (nearN t k s (x :: L.drop (i + 1)) = N) := hP1
      cases hb : hasT t (k.extract 0 (s + x.size)) with
      | true =>
        have hn2 : Hid (nearN t k (s + x.size) (L.drop (i + 1)) = N) := by
          show _ = _
          rw [← hn1.out]
          show _ = if _ then _ else _
          rw [if_pos hb]
        rw [hb] at hHx
        have z2h : Hid (sizes (L.take (i + 1)) = s + x.size) := z2
        have x2h : Hid (Ext w1 wr) := hP2
        clear hP hP1 hP2 z1 z2 hdr hn1 hb
        go_wp2_with (go_at_call 29; refine hHx.mono ?_; rintro _ w2 ⟨rfl, x2⟩)
        go_roundw
        case rel => exact ⟨i + 1, hlt, by go_num, by rw [z2h.out]; go_num, by rw [z2h.out]; exact hn2.out, x2h.out.trans x2⟩
        case measure => simp [intOf]; omega
      | false =>
        have hn2 : Hid (s = N) := by
          show _ = _
          rw [← hn1.out]
          show _ = if _ then _ else _
          rw [if_neg (by rw [hb]; decide)]
        rw [hb] at hHx
        have x2h : Hid (Ext w1 wr) := hP2
        have hsk0 : s ≤ k.size := by omega
        clear hP hP1 hP2 z1 z2 hdr hn1 hb
        by_cases h0 : 0 < s
        · have h0i : (0 : Int) < (s : Int) := by omega
          go_wp2_with (go_at_call 29; refine hHx.mono ?_; rintro _ w2 ⟨rfl, x2⟩)
          go_ret2
          exact ⟨by rw [← hn2.out]; simp [h0], x1.trans (x2h.out.trans x2)⟩
        · have h0i : ¬ (0 : Int) < (s : Int) := by omega
          go_wp2_with (go_at_call 29; refine hHx.mono ?_; rintro _ w2 ⟨rfl, x2⟩)
          go_ret2
          exact ⟨by rw [← hn2.out]; simp [h0], x1.trans (x2h.out.trans x2)⟩
    · have hii : ¬ (i : Int) < (L.length : Int) := by omega
      have hsN : Hid (s = N) := by
        show _ = _
        rw [← hP1, List.drop_eq_nil_of_le (by omega), hs.out]
        rfl
      have hsk0 : s ≤ k.size := by
        rw [hs.out, List.take_of_length_le (by omega)]
        exact hle
      have x2h : Hid (Ext w1 wr) := hP2
      rw [← hs.out]
      clear hP hP1 hP2
      by_cases h0 : 0 < s
      · have h0i : (0 : Int) < (s : Int) := by omega
        go_wp2
        go_ret2
        exact ⟨by rw [← hsN.out]; simp [h0], x1.trans x2h.out⟩
      · have h0i : ¬ (0 : Int) < (s : Int) := by omega
        go_wp2
        go_ret2
        exact ⟨by rw [← hsN.out]; simp [h0], x1.trans x2h.out⟩
end Go.Proofs.Ytbgoddcpgogpdaa

/-
  A region that draws within a round: as outside of one, where nothing is deferred.
-/
namespace Go.Proofs.Ytbgoddcpgogpdaa
open Go.RowKit Go.Shelf
section
variable {n : Nat} {P : Program} {md : Region.Mode} {ops : Array Oper} {Q : Exit → Act → World → Prop}
theorem op_inRound (l : Nat) (o : Oper) (hd : ∀ c, o.op ≠ .defer c) {K : Act → World → Prop} {a : Act} {w : World} (hh : o.wpIn Fence.wide n P a w K Q) : o.wpIn (Fence.wide.inRound l) n P a w K Q := by
  unfold Oper.wpIn at *
  refine ⟨hh.1, ?_⟩
  have h2 := hh.2
  have e1 : o.semAt (Fence.wide.inRound l).round a.eval = execOp a.eval o := Oper.semAt_some l _ _ hd
  have e2 : o.semAt Fence.wide.round a.eval = execOp a.eval o := rfl
  rw [e1]
  rw [e2] at h2
  generalize (execOp a.eval o).run P w = r at *
  cases r with
  | ok x w' => cases x <;> exact h2
  | halt x w' => cases x <;> exact h2
theorem opAt_inRound (l : Nat) (hd : ∀ (i : Nat) (o : Oper), ops[i]? = some o → ∀ c, o.op ≠ .defer c) {i : Nat} {K K' : Act → World → Prop} {a : Act} {w : World} (hK : ∀ a w, K a w → K' a w) (h : wpOpIn Fence.wide n P ops Q i K a w) : wpOpIn (Fence.wide.inRound l) n P ops Q i K' a w := by
  have hh := wpOpIn_mono hK h
  unfold wpOpIn at *
  split
  · simpa [*] using hh
  · rename_i o ho
    simp only [ho] at hh
    split
    · rename_i hw
      simp only [hw, if_true] at hh
      exact op_inRound l o (hd i o ho) hh
    · rename_i hw
      simp only [hw] at hh
      exact hh
theorem any_inRound (l : Nat) (hd : ∀ (i : Nat) (o : Oper), ops[i]? = some o → ∀ c, o.op ≠ .defer c) : ∀ (fuel : Nat) (listed : Array Bool) (a : Act) (w : World), wpAnyIn Fence.wide n P md ops Q fuel listed a w → wpAnyIn (Fence.wide.inRound l) n P md ops Q fuel listed a w
  | 0, _, _, _, h => h
  | fuel + 1, _, _, _, h => ⟨h.1, fun i hi => opAt_inRound l hd (fun a w h => any_inRound l hd fuel _ a w h) (h.2 i hi)⟩
/-- no operation of a list defers -/
def noDefer (l : List Oper) : Bool := l.all fun o => match o.op with
  | .defer _ => false
  | _ => true
theorem region_inRound (l : Nat) {id : Nat} {os : List Oper} {a : Act} {w : World} (hm : P.follows .mixedOrders = true) (hn : noDefer os = true)
    (h : wpAnyIn Fence.wide n P .any os.toArray Q os.length (Array.replicate os.length false) a w.drew) : (Code.region id os.toArray true).wpIn (Fence.wide.inRound l) n P Q a w := by
  refine wpIn_region_any hm ?_
  refine any_inRound l ?_ _ _ _ _ h
  intro i o ho c e
  have hm : o ∈ os := by
    rw [List.getElem?_toArray] at ho
    exact List.mem_of_getElem? ho
  have h9 := List.all_eq_true.1 hn o hm
  rw [e] at h9
  cases h9
end
end Go.Proofs.Ytbgoddcpgogpdaa
