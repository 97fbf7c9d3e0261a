/-
  Rows of bytes that grow: what grows leaves the slice that it grew from as it is; several such, apart from one another.
-/
import Derived.Test.YtjannndndbohaaaRkeep
import Derived.Test.YtjannndndbohaaaBapart
namespace Go.Proofs.Ytjannndndbohaaa
open Go.RowKit Go.Shelf

/-- v grew from a by the bytes B -/
structure Fam2 (w : World) (a : Value) (A : List UInt8) (v : Value) (B : List UInt8) : Prop where
  ra : RowB w (own a) a A
  rv : RowB w (own v) v (A ++ B)
  sh : Shares a v
theorem Fam2.self {w : World} {a : Value} {A : List UInt8} (h : RowB w (own a) a A) : Fam2 w a A a [] := by
  refine ⟨h, by rw [List.append_nil]; exact h, fun g h1 _ => ?_⟩
  rcases h.1.2 with ⟨rfl, _⟩ | ⟨g', cap, cur, rfl, _⟩
  · simp [own, Value.ownBlock] at h1
  · simp only [own, Value.ownBlock, Option.some.injEq] at h1
    subst h1
    exact ⟨_, _, cap, rfl, rfl, Nat.le_refl _⟩
theorem Fam2.kept {w w' : World} {a v : Value} {A B : List UInt8} {S : Nat → Prop} (h : Fam2 w a A v B) (k : Only S w w') (hd : ∀ g, foot a v g → ¬ S g) : Fam2 w' a A v B :=
  ⟨Row.kept h.ra k (fun g hg => hd g (.inl hg)), Row.kept h.rv k (fun g hg => hd g (.inr hg)), h.sh⟩
theorem Fam2.lt {w : World} {a v : Value} {A B : List UInt8} (h : Fam2 w a A v B) {g : Nat} (hg : foot a v g) : g < w.heap.size := hg.elim (fun h1 => Row.lt h.ra h1) (fun h1 => Row.lt h.rv h1)
set_option maxHeartbeats 4000000 in
theorem Fam2.push {w : World} {a v : Value} {A B : List UInt8} (h : Fam2 w a A v B) (b : UInt8) (H : Nat) (z : Int) (hz0 : z = b.toNat) (hH : w.heap[H]? = some (.cells #[.int .u8 z] 5 (0, 0))) (ty : TypeId) (hn : A.length + B.length + 1 ≤ 4000000000) :
    ∃ v' w', (Builtin.append_ #[22, 22] ty #[v, .slice (some ⟨H, 0, none⟩) 1 1]).run Try.prog w = .ok v' w' ∧ Fam2 w' a A v' (B ++ [b]) ∧ Only (own v) w w' ∧ (∀ g, own v' g → own v g ∨ w.heap.size ≤ g) ∧ ∃ ad cap, v' = .slice ad (A.length + B.length + 1) cap := by
  obtain ⟨i, hi0, hz, hsz, hby⟩ := info_parts info8
  obtain ⟨ra, rv, sh⟩ := h
  obtain ⟨n, hnn⟩ : ∃ n, (A ++ B).length = n := ⟨_, rfl⟩
  have hAB : A.length + B.length = n := by rw [← hnn]; simp
  rw [hAB] at hn ⊢
  have hs0 : Src Try.prog 1 22 (.slice (some ⟨H, 0, none⟩) 1 1) 1 [B8 b] w := Src.ofSlice w Try.underlying22 ⟨H, 0, none⟩ 1 1 [B8 b] (by simp) (fun j u hu => by
    rw [Addr.add_lit, Nat.zero_add, cell_of_row w H j _ _ _ hH]; subst hz0; simpa [B8] using hu) (by simp [B8, Value.oneCell'])
  have h63 : ((n + 1 : Nat) : Int) ≤ 9223372036854775807 := by omega
  have hs : Src Try.prog i.size 22 (.slice (some ⟨H, 0, none⟩) 1 1) 1 [B8 b] w := by rw [hsz]; exact hs0
  have hxl : ((A ++ B).map B8).length = n := by simpa using hnn
  have rv' : Row w (own v) 5 1 v n ((A ++ B).map B8) := by have := rv; unfold RowB at this; rwa [hnn] at this
  have hmap : ((A ++ B).map B8) ++ [B8 b] = (A ++ (B ++ [b])).map B8 := by simp
  have hlen : (A ++ (B ++ [b])).length = n + 1 := by rw [← List.append_assoc, List.length_append, hnn]; rfl
  have grow : ∀ (base : Option Addr) (cap : Nat), v = .slice base n cap → cap < n + 1 → (Builtin.firstCells i.size n (.slice base n cap)).run Try.prog w.drew = .ok ((A ++ B).map B8).toArray w.drew →
      ∃ v' w', (Builtin.append_ #[22, 22] ty #[v, .slice (some ⟨H, 0, none⟩) 1 1]).run Try.prog w = .ok v' w' ∧ Fam2 w' a A v' (B ++ [b]) ∧ Only (own v) w w' ∧ (∀ g, own v' g → own v g ∨ w.heap.size ≤ g) ∧ ∃ ad cap, v' = .slice ad (n + 1) cap := by
    intro base cap hv hc hold
    subst hv
    have hr := run_append_grow_src (P := Try.prog) w 22 22 ty 5 i _ Try.underlying22 hi0 hz base n cap ((A ++ B).map B8) hold _ 1 [B8 b] hs hc h63 (by rw [hby]; exact growslice_fits hc (by omega))
    have hge := grownCap_ge w (n + 1) cap 5
    have hex : Ext w (w.drew.alloc (.cells (((A ++ B).map B8 ++ [B8 b]).toArray ++ Builtin.zeroCells (Value.int .u8 0).cells (grownCap w (n + 1) cap 5 - (n + 1))) 5)) := (Ext.refl w).drew.alloc _
    refine ⟨_, _, hr, ⟨Row.ext ra hex, ?_, ?_⟩, hex.only, fun g hg => .inr ?_, ⟨_, _, rfl⟩⟩
    · refine ⟨⟨by simp, .inr ⟨w.heap.size, _, _, by rw [hlen], Nat.zero_le _, heap_alloc_new w.drew _, by rw [hlen]; exact hge, grownCap_le_maxLen w (n + 1) cap 5 (by unfold maxLen; omega), ?_, ?_⟩⟩, fun _ hk => hk⟩
      · simp only [List.length_append, List.length_map] at hxl
        simp [Builtin.zeroCells, Value.cells]; omega
      · rw [hlen, hmap]
        simp only [Array.toList_append, Nat.mul_one]
        rw [List.take_append_of_le_length (by rw [List.length_map, hlen]; omega), List.take_of_length_le (by rw [List.length_map, hlen]; omega)]
    · intro g ha hv
      have h1 := Row.lt ra ha
      simp only [own, Value.ownBlock, Option.some.injEq] at hv
      omega
    · simp only [own, Value.ownBlock, Option.some.injEq] at hg
      omega
  rcases rv'.1.2 with ⟨rfl, rfl⟩ | ⟨g, cap, cur, rfl, _, hg, hnc, hcm, hcs, htk⟩
  · refine grow none 0 rfl (by omega) ?_
    have := run_firstCells_none (P := Try.prog) w.drew i.size 0 0 0
    rw [List.eq_nil_of_length_eq_zero hxl]
    exact this
  · have hcell : ∀ j u, ((A ++ B).map B8)[j]? = some u → w.cell? ((⟨g, 0, none⟩ : Addr).add j) = some u := World.ownsRow.cells rv'.1 rfl
    by_cases hroom : n + 1 ≤ cap
    · have hr := run_append_room_src (P := Try.prog) w 22 22 ty 5 i Try.underlying22 hi0 g 0 n cap _ 1 [B8 b] hs hroom
        (fun j hj => by rw [hsz, cell_of_row w g _ cur 5 (0, 0) hg, Array.getElem?_eq_getElem (by simp at hj; omega)]; rfl)
        (fun j hj => by simp [World.frozen?, hg])
      rw [hsz] at hr
      have hh := heap_setCells_at g 5 (0, 0) [B8 b] (0 + n * 1) w cur.toList (by simpa using hg) (by simp; omega)
      have hon := Only.setCells (S := own (.slice (some ⟨g, 0, none⟩) n cap)) w g (0 + n * 1) [B8 b] rfl
      refine ⟨_, _, hr, ⟨?_, ?_, ?_⟩, hon, fun k hk => .inl hk, ⟨_, _, rfl⟩⟩
      · by_cases ho : own a g
        · obtain ⟨la', n', cap', rfl, e2, hl⟩ := sh g ho rfl
          cases e2
          obtain rfl : A.length = la' := by
            rcases ra.1.2 with ⟨e, _⟩ | ⟨_, _, _, e, _⟩ <;> cases e; rfl
          refine ⟨⟨ra.1.1, .inr ⟨g, cap, _, rfl, Nat.zero_le _, hh, by omega, hcm, by simp; omega, ?_⟩⟩, fun _ hk => hk⟩
          rcases ra.1.2 with ⟨e, _⟩ | ⟨_, _, cur', e, _, hg', _, _, _, ht'⟩
          · cases e
          · cases e
            rw [hg] at hg'
            cases hg'
            simp only
            rw [List.append_assoc, List.take_append_of_le_length (by simp; omega), List.take_take, Nat.min_eq_left (by omega)]
            exact ht'
        · exact Row.kept ra hon (fun k hk e => by
            simp only [own, Value.ownBlock, Option.some.injEq] at e
            exact ho (e ▸ hk))
      · refine ⟨⟨by simp, .inr ⟨g, cap, _, by rw [hlen], Nat.zero_le _, hh, by rw [hlen]; omega, hcm, by simp; omega, ?_⟩⟩, fun _ hk => hk⟩
        simp only [Nat.mul_one] at htk
        simp only [Nat.zero_add, Nat.mul_one]
        rw [hlen, htk, ← hmap]
        rw [List.take_append_of_le_length (by simp only [List.length_append, List.length_map] at hxl ⊢; simp; omega), List.take_of_length_le (by simp only [List.length_append, List.length_map] at hxl ⊢; simp; omega)]
      · intro k ha hv
        simp only [own, Value.ownBlock, Option.some.injEq] at hv
        subst hv
        obtain ⟨la', n', cap', e1, e2, hl⟩ := sh g ha rfl
        cases e2
        exact ⟨la', n + 1, cap, e1, rfl, by omega⟩
    · refine grow (some ⟨g, 0, none⟩) cap rfl (by omega) ?_
      rw [hsz]
      exact run_firstCells_some w.drew 1 n ⟨g, 0, none⟩ n cap ((A ++ B).map B8) (by omega) hcell
end Go.Proofs.Ytjannndndbohaaa
