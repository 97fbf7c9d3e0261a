/-
  The document's texts in order: rows put together.
-/
import Derived.Test.YtkdfgjdencelkaaBrt2
import Derived.Test.YtkdfgjdencelkaaXapp
namespace Go.Proofs.Ytkdfgjdencelkaa
open Go.RowKit
theorem infoS : (Try.prog.info? 9).map (fun i => (i.zero, i.size, i.bytes)) = some (some (.string ⟨#[]⟩), 1, 16) := by kernel_rfl
theorem infoN : (Try.prog.info? 3).map (fun i => (i.zero, i.size, i.bytes)) = some (some (.int .i64 0), 1, 8) := by kernel_rfl
theorem oneS (x : ByteArray) : (S6 x).oneCell' = true := rfl
theorem oneN (x : Nat) : (N6 x).oneCell' = true := rfl
/-- a list put behind a row -/
theorem gapp {α : Type} {enc : α → Value} {t e : TypeId} {z : Value} {bytes : Nat} (hi : (Try.prog.info? e).map (fun i => (i.zero, i.size, i.bytes)) = some (some z, 1, bytes)) (hby : bytes ≤ 16) (ht : Try.prog.underlying t = some (.slice e)) (hzs : z.cells.size = 1) (h1c : ∀ x : α, (enc x).oneCell' = true)
    (W : World) (m0 : Nat) (u : Value) (l : List α) (h : RowE e enc W (fun k => m0 ≤ k) u l) (hm0 : m0 ≤ W.heap.size) (ty : TypeId) (x : Value) (m : List α) (hx : Sl enc W x m) (hl : l.length + m.length ≤ 4000000000000) :
    ∃ a cap W', (Builtin.append_ #[t, t] ty #[u, x]).run Try.prog W = .ok (.slice a (l.length + m.length) cap) W' ∧ RowE e enc W' (fun k => m0 ≤ k) (.slice a (l.length + m.length) cap) (l ++ m) ∧ Only (own u) W W' := by
  obtain ⟨v', W', h1, h2, h3, a, cap, rfl⟩ := run_append_row1 W (own u) t e t ty _ bytes hi ht hzs u l.length (l.map enc) (Row.min h) x m.length (m.map enc) (srcV ht h1c hx) (by unfold maxLen; omega) (by
    have : (l.length + m.length) * bytes ≤ 4000000000000 * 16 := Nat.mul_le_mul hl hby
    omega)
  refine ⟨a, cap, W', h1, ?_, h3⟩
  refine rowE_of h2 (by simp) (by simp) ?_
  rintro k (hk | hk)
  · exact h.2 k hk
  · exact Nat.le_trans hm0 hk
theorem own_typeN {w : World} {S : Nat → Prop} {e : TypeId} {sz n : Nat} {v : Value} {xs : List Value} (h : Row w S e sz v n xs) (k : Nat) (hk : own v k) : ∃ c, w.heap[k]? = some (.cells c e (0, 0)) := by
  rcases h.1.2 with ⟨rfl, _⟩ | ⟨g, cap, cur, rfl, _, hg, _⟩
  · simp [own, Value.ownBlock] at hk
  · simp only [own, Value.ownBlock, Option.some.injEq] at hk
    subst hk
    exact ⟨_, hg⟩
/-- a row stands while one of another type turns -/
theorem row_apart {α β : Type} {enc : α → Value} {enc' : β → Value} {e e' : TypeId} {W W' : World} {S S' : Nat → Prop} {v u : Value} {l : List α} {l' : List β} (h : RowE e enc W S v l) (hu : RowE e' enc' W S' u l') (hne : e ≠ e') (o : Only (own u) W W') : RowE e enc W' S v l := by
  have h9 := Row.kept (Row.min h) o (fun g hg hg' => by
    obtain ⟨c, hc⟩ := own_typeN h g hg
    obtain ⟨c', hc'⟩ := own_typeN hu g hg'
    rw [hc] at hc'
    simp only [Option.some.injEq, Obj.cells.injEq] at hc'
    exact hne hc'.2.1)
  exact ⟨h9.1, h.2⟩
/-- new rows leave what was there -/
theorem Ext.app {α : Type} {enc : α → Value} {e : TypeId} {w W W' : World} {u : Value} {l : List α} (h : Ext w W) (hu : RowE e enc W (fun k => w.heap.size ≤ k) u l) (o : Only (own u) W W') : Ext w W' := Ext.then h o (fun g hg => hu.2 g hg)
theorem putL_rank {α β : Type} (c : α → α → Int) (k : α) (v : β) : ∀ l : List (α × β), (∀ h : rankL c k l < l.length, c (l[rankL c k l]).1 k = 0 → putL c k v l = l.set (rankL c k l) (k, v)) ∧ ((∀ h : rankL c k l < l.length, c (l[rankL c k l]).1 k ≠ 0) → putL c k v l = l.take (rankL c k l) ++ (k, v) :: l.drop (rankL c k l))
  | [] => ⟨fun h => by simp at h, fun _ => rfl⟩
  | p :: t => by
    have ih := putL_rank c k v t
    by_cases h : c p.1 k < 0
    · have hr : rankL c k (p :: t) = rankL c k t + 1 := by simp [rankL, h]
      have hg : putL c k v (p :: t) = p :: putL c k v t := by simp [putL, h]
      refine ⟨fun h1 h2 => ?_, fun h2 => ?_⟩
      · simp only [hr, List.getElem_cons_succ] at h2 ⊢
        rw [hg, ih.1 (by rw [hr] at h1; simpa using h1) h2]
        simp
      · rw [hg, hr, ih.2 (fun h3 => by have := h2 (by rw [hr]; simpa using h3); simpa only [hr, List.getElem_cons_succ] using this)]
        simp
    · have hr : rankL c k (p :: t) = 0 := by simp [rankL, h]
      refine ⟨fun h1 h2 => ?_, fun h2 => ?_⟩
      · simp only [hr, List.getElem_cons_zero] at h2 ⊢
        simp [putL, h2]
      · have h3 := h2 (by rw [hr]; simp)
        simp only [hr, List.getElem_cons_zero] at h3
        simp [putL, h, h3, hr]
theorem delL_rank {α β : Type} (c : α → α → Int) (k : α) : ∀ l : List (α × β), (∀ h : rankL c k l < l.length, c (l[rankL c k l]).1 k = 0 → delL c k l = l.take (rankL c k l) ++ l.drop (rankL c k l + 1)) ∧ ((∀ h : rankL c k l < l.length, c (l[rankL c k l]).1 k ≠ 0) → delL c k l = l)
  | [] => ⟨fun h => by simp at h, fun _ => rfl⟩
  | p :: t => by
    have ih := delL_rank c k t
    by_cases h : c p.1 k < 0
    · have hr : rankL c k (p :: t) = rankL c k t + 1 := by simp [rankL, h]
      have hg : delL c k (p :: t) = p :: delL c k t := by simp [delL, h]
      refine ⟨fun h1 h2 => ?_, fun h2 => ?_⟩
      · simp only [hr, List.getElem_cons_succ] at h2
        rw [hg, hr, ih.1 (by rw [hr] at h1; simpa using h1) h2]
        simp
      · rw [hg, ih.2 (fun h3 => by have := h2 (by rw [hr]; simpa using h3); simpa only [hr, List.getElem_cons_succ] using this)]
    · have hr : rankL c k (p :: t) = 0 := by simp [rankL, h]
      refine ⟨fun h1 h2 => ?_, fun h2 => ?_⟩
      · simp only [hr, List.getElem_cons_zero] at h2
        simp [delL, h2, hr]
      · have h3 := h2 (by rw [hr]; simp)
        simp only [hr, List.getElem_cons_zero] at h3
        simp [delL, h, h3]
end Go.Proofs.Ytkdfgjdencelkaa
